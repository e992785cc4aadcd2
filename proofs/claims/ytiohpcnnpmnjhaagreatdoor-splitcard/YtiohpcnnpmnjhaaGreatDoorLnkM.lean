import Derived.Test.YtiohpcnnpmnjhaaGreatDoorStoM
import Derived.Test.YtiohpcnnpmnjhaaGreatDoorCodM
import Derived.Laws.OwnMore
namespace Go.Proofs.YtiohpcnnpmnjhaaGreatDoor
set_option linter.unusedVariables false

section
variable {F : Fence} {n : Nat} {P : Program} {ops : Array Oper} {md : Region.Mode} {C : World → Prop} {Q : Exit → Act → World → Prop}

/-- An operation that may come up now, and is not wanted, may be passed over first. -/
theorem wpAnyC_firstS {i : Nat} {oi : Oper} (hro : F.round = none) (hFn : ∀ f, F.fn f) (hi : ops[i]? = some oi) (hsel : ∀ (j : Nat) (o : Oper) cs b, ops[j]? = some o → o.op ≠ .select cs b)
    (hQ : ∀ c a w, Q (.panic c) (a.put oi.dst undef) w → Q (.panic c) a w) : ∀ (fuel : Nat) (listed : Array Bool) (a : Act) (w : World), C w →
      (∀ j oj, ops[j]? = some oj → j ≠ i → listed.getD j true = false → (∀ e ∈ oj.after, Region.binds md e = true → e.on ≠ i) → oi.apart ops oj = true) →
      i ∈ Region.ready md ops listed → Region.wanted oi (yielded ops a.tmps) = false → wpAnyC F n P md ops C Q fuel (listed.setIfInBounds i true) (a.put oi.dst undef) w → wpAnyC F n P md ops C Q (fuel + 1) listed a w := by
  have mine : ∀ (fuel : Nat) (listed : Array Bool) (a : Act) (w : World), C w → Region.wanted oi (yielded ops a.tmps) = false → wpAnyC F n P md ops C Q fuel (listed.setIfInBounds i true) (a.put oi.dst undef) w →
      wpOpIn F n P ops Q i (fun a' w' => C w' ∧ wpAnyC F n P md ops C Q fuel (listed.setIfInBounds i true) a' w') a w := fun fuel listed a w hC hy H => by
    unfold wpOpIn
    simp only [hi]
    rw [if_neg (by rw [hy]; exact Bool.false_ne_true)]
    exact ⟨fun f _ => hFn f, hC, H⟩
  intro fuel
  induction fuel with
  | zero =>
    intro listed a w hC _ hr hy H
    refine ⟨(fun h => by rw [h] at hr; cases hr), fun j hj => ?_⟩
    by_cases hji : j = i
    · subst hji; exact mine 0 listed a w hC hy H
    · have := ready_mono hj hji
      rw [H.1] at this; cases this
  | succ fuel ih =>
    intro listed a w hC hfree hr hy H
    refine ⟨(fun h => by rw [h] at hr; cases hr), fun j hj => ?_⟩
    by_cases hji : j = i
    · subst hji; exact mine _ listed a w hC hy H
    · obtain ⟨hjun, oj, hoj, hall⟩ := mem_ready.1 hj
      have hnot : ∀ e ∈ oj.after, Region.binds md e = true → e.on ≠ i := fun e he hb heq => by
        have h1 := hall e he hb
        have h0 := (mem_ready.1 hr).1
        rw [heq] at h1
        by_cases h' : i < listed.size
        · simp [h'] at h0 h1; rw [h0] at h1; cases h1
        · simp [Array.getElem?_eq_none (Nat.le_of_not_lt h')] at h1
      have hap := hfree j oj hoj hji hjun hnot
      obtain ⟨_, _, h3⟩ := Oper.apart_spec hap
      refine wpOpIn_mono ?_ (wpOpIn_beside hro hoj hap (fun cs b => hsel j oj cs b hoj) hQ (H.2 j (ready_mono hj hji)))
      rintro a' w' ⟨⟨u, ds, rfl⟩, hC', H'⟩
      refine ⟨hC', ih _ _ _ hC' (fun k ok hk hki hun hno => hfree k ok hk hki ?_ hno) (ready_mono hr (Ne.symm hji)) ?_ (by rw [Array.setIfInBounds_comm _ _ hji]; exact H')⟩
      · by_cases hjk : j = k
        · subst hjk; exact hjun
        · rwa [getD_set_ne true hjk] at hun
      · rw [wanted_put oi _ oj.dst u h3]; exact hy

theorem wpAnyC_skip {i : Nat} {oi : Oper} {fuel : Nat} {listed : Array Bool} {a : Act} {w : World} (hC : C w) (hro : F.round = none) (hFn : ∀ f, F.fn f) (hi : ops[i]? = some oi) (hs : Region.noSelect ops = true) (hf : Region.free md ops listed i = true) (hr : (Region.ready md ops listed).contains i = true)
    (hQ : ∀ c a w, Q (.panic c) (a.put oi.dst undef) w → Q (.panic c) a w) (hy : Region.wanted oi (yielded ops a.tmps) = false) (h : wpAnyC F n P md ops C Q fuel (listed.setIfInBounds i true) (a.put oi.dst undef) w) : wpAnyC F n P md ops C Q (fuel + 1) listed a w :=
  wpAnyC_firstS hro hFn hi (Region.noSelect_spec hs) hQ fuel listed a w hC (Region.free_spec hi hf) (by simpa using hr) hy h
/-- The same, the slot named. -/
theorem wpAnyC_takeN (i : Nat) (d : Option Tmp) (v : Value) {oi : Oper} {fuel : Nat} {listed : Array Bool} {a : Act} {w : World} (hC : C w) (hro : F.round = none) (hi : ops[i]? = some oi) (hd : oi.dst = d) (hs : Region.noSelect ops = true) (hf : Region.free md ops listed i = true) (hr : (Region.ready md ops listed).contains i = true)
    (hQ : ∀ c a w, Q (.panic c) (a.put d v) w → Q (.panic c) a w) (hy : YieldsC P ops C oi v a) (h : wpAnyC F n P md ops C Q fuel (listed.setIfInBounds i true) (a.put d v) w) : wpAnyC F n P md ops C Q (fuel + 1) listed a w := by
  subst hd
  exact wpAnyC_take hC hro hi hs hf hr hQ hy h
theorem wpAnyC_skipN (i : Nat) (d : Option Tmp) {oi : Oper} {fuel : Nat} {listed : Array Bool} {a : Act} {w : World} (hC : C w) (hro : F.round = none) (hFn : ∀ f, F.fn f) (hi : ops[i]? = some oi) (hd : oi.dst = d) (hs : Region.noSelect ops = true) (hf : Region.free md ops listed i = true) (hr : (Region.ready md ops listed).contains i = true)
    (hQ : ∀ c a w, Q (.panic c) (a.put d undef) w → Q (.panic c) a w) (hy : Region.wanted oi (yielded ops a.tmps) = false) (h : wpAnyC F n P md ops C Q fuel (listed.setIfInBounds i true) (a.put d undef) w) : wpAnyC F n P md ops C Q (fuel + 1) listed a w := by
  subst hd
  exact wpAnyC_skip hC hro hFn hi hs hf hr hQ hy h
end

end Go.Proofs.YtiohpcnnpmnjhaaGreatDoor

namespace Go.Proofs.YtiohpcnnpmnjhaaGreatDoor
open Go.RowKit Go.Shelf
set_option linter.unusedVariables false
attribute [local go_sem] Oper.semAt_some

/-- Do x and y differ by no more than ap? -/
def nearB (ap : Int) (c d : Cel) : Bool := decide (c.1 - ap ≤ d.1) && decide (d.1 ≤ c.1 + ap) && decide (c.2 - ap ≤ d.2) && decide (d.2 ≤ c.2 + ap)
/-- The numbers of those that do, below m. -/
def nearTo (C : List Cel) (c : Cel) (ap : Int) (m : Nat) : List Nat := (List.range m).filter fun j => match C[j]? with | some d => nearB ap c d | none => false
theorem nearTo_succ (C : List Cel) (c : Cel) (ap : Int) (m : Nat) {d : Cel} (h : C[m]? = some d) : nearTo C c ap (m + 1) = nearTo C c ap m ++ (if nearB ap c d = true then [m] else []) := by
  unfold nearTo
  rw [List.range_succ, List.filter_append]
  congr 1
  simp [List.filter_cons, h]
/-- Where the search begins, none is near ahead. -/
theorem nearTo_start {C : List Cel} {c : Cel} {ap : Int} {i : Nat} (h : ∀ t d, t < i → C[t]? = some d → before d (c.1 - ap, c.2 - ap)) : nearTo C c ap i = [] := by
  unfold nearTo
  rw [List.filter_eq_nil_iff]
  intro j hj
  have hj' := List.mem_range.1 hj
  cases hc : C[j]? with
  | none => simp
  | some d =>
    have := h j d hj' hc
    unfold before at this
    simp only at this
    simp only [nearB, Bool.and_eq_true, decide_eq_true_eq]
    omega
/-- Where it ends, none is near behind. -/
theorem nearTo_end {C : List Cel} (ha : Asc C) {c : Cel} {ap : Int} {i : Nat} {e : Cel} (he : C[i]? = some e) (hb : before (c.1 + ap, c.2 + ap) e) : ∀ m, i ≤ m → m ≤ C.length → nearTo C c ap m = nearTo C c ap i := by
  intro m hm hl
  induction m with
  | zero => obtain rfl : i = 0 := by omega
            rfl
  | succ m ih =>
    by_cases e1 : i = m + 1
    · rw [e1]
    · obtain ⟨d, hd⟩ : ∃ d, C[m]? = some d := ⟨C[m]'(by omega), by simp [show m < C.length by omega]⟩
      rw [nearTo_succ C c ap m hd, ih (by omega) (by omega)]
      have hbd : before (c.1 + ap, c.2 + ap) d := by
        by_cases e2 : i = m
        · subst e2; rw [he] at hd; cases hd; exact hb
        · exact before_trans hb (asc_at ha he hd (by omega))
      have : nearB ap c d = false := by
        unfold before at hbd
        simp only at hbd
        simp only [nearB, Bool.and_eq_false_iff, decide_eq_false_iff_not]
        omega
      rw [this]
      simp

theorem near_fn (a : Option Addr) (n c : Nat) (cx cy ap : Int) (w : World) :
    Calls Tryz.prog 125 #[.slice a n c, .agg #[.int .i64 cx, .int .i64 cy], .int .i64 ap] w fun e w' => e = .returned (.func (.func 142) #[] #[.pointer (some ⟨w.heap.size + 1, 0, none⟩), .pointer (some ⟨w.heap.size + 2, 0, none⟩), .pointer (some ⟨w.heap.size, 0, none⟩)]) ∧ w' = ((w.alloc (.cells #[.slice a n c] 71)).alloc (.cells #[.int .i64 cx, .int .i64 cy] 113)).alloc (.cells #[.int .i64 ap] 3) := by
  have hmf : ∀ (fn : Fn) (first cap : Array Value) (w : World), (Instr.makeFunc fn first cap).run Tryz.prog w = .ok (.func fn first cap) w := fun _ _ _ _ => rfl
  go_enter Tryz.func125, Tryz.ntmps125
  go_wp2
  go_ret
  exact ⟨rfl, rfl⟩

/-- What the search does. -/
def SearchDoes : Prop := ∀ (v : Value) (C : List Cel) (x y : Int) (w : World), RowAt w v C → C.length ≤ 1000000 → Asc C →
    Calls Tryz.prog 143 #[v, .agg #[.int .i64 x, .int .i64 y], .func (.func 111) #[] #[]] w fun e w' => (∃ i : Nat, i ≤ C.length ∧ Sought C (x, y) i i ∧ e = .returned (.tuple #[.int .i64 (i : Int), .bool (decide ((x, y) ∈ C))])) ∧ Below w.heap.size w w'

set_option maxRecDepth 100000 in
set_option maxHeartbeats 3200000 in
theorem near_seq (hsrch : SearchDoes) (hcmp : CompareDoes) (n : Nat) (hn : 3 ≤ n) (C : List Cel) (a0 : Option Addr) (cap0 Bc Ba Bp : Nat) (cx cy ap : Int) (w0 : World) (hl : C.length ≤ 1000) (hasc : Asc C) (hap : 0 ≤ ap ∧ ap ≤ 10) (hcx : -4000000000000000000 ≤ cx ∧ cx ≤ 4000000000000000000) (hcy : -4000000000000000000 ≤ cy ∧ cy ≤ 4000000000000000000)
    (own0 : w0.ownsRow 0 113 2 (.slice a0 C.length cap0) C.length (flatC C)) (hBc : w0.heap[Bc]? = some (.cells #[.int .i64 cx, .int .i64 cy] 113 (0, 0))) (hBa : w0.heap[Ba]? = some (.cells #[.int .i64 ap] 3 (0, 0))) (hBp : w0.heap[Bp]? = some (.cells #[.slice a0 C.length cap0] 71 (0, 0))) :
    SeqN Fence.wide n Tryz.prog 142 #[.pointer (some ⟨Bc, 0, none⟩), .pointer (some ⟨Ba, 0, none⟩), .pointer (some ⟨Bp, 0, none⟩)] (fun (j : Nat) => #[.int .i64 (j : Int)]) (fun _ j _ => j < C.length) KpT (fun xs => xs = nearTo C (cx, cy) ap C.length) w0 := fun l J W hW hJ hY h0 => by
  have h1n : 1 ≤ n := by omega
  have hnot : ∀ (x : Bool) (w : World), (Op.unary .not (.bool x)).run Tryz.prog w = .ok (.bool (!x)) w := fun _ _ => rfl
  have hBc' := (hW.block Bc (blk_lt hBc)).trans hBc
  have hBa' := (hW.block Ba (blk_lt hBa)).trans hBa
  have hBp' := (hW.block Bp (blk_lt hBp)).trans hBp
  have own1 : W.ownsRow 0 113 2 (.slice a0 C.length cap0) C.length (flatC C) := rowBelow own0 hW
  clear hBc hBa hBp own0
  have c0 := cell_of hBc' 0
  have c1 := cell_of hBc' 1
  have c2 := cell_of hBa' 0
  have e0 := cell_of (blk_old hBc' (.cells #[.int .i64 (cx - ap), .int .i64 (cy - ap)] 113)) 0
  have e1 := cell_of (blk_old hBc' (.cells #[.int .i64 (cx - ap), .int .i64 (cy - ap)] 113)) 1
  have e2 := cell_of (blk_old hBa' (.cells #[.int .i64 (cx - ap), .int .i64 (cy - ap)] 113)) 0
  obtain ⟨W2, hW2⟩ : ∃ W2, (W.alloc (.cells #[.int .i64 (cx - ap), .int .i64 (cy - ap)] 113)).alloc (.cells #[.int .i64 (cx + ap), .int .i64 (cy + ap)] 113) = W2 := ⟨_, rfl⟩
  have b2 : Below W.heap.size W W2 := by rw [← hW2]; exact ((Below.refl _ W).alloc (Nat.le_refl _) _).alloc (by simp) _
  have q0 : W2.heap[W.heap.size]? = some (.cells #[.int .i64 (cx - ap), .int .i64 (cy - ap)] 113 (0, 0)) := by rw [← hW2]; exact blk_old (blk_new W _) _
  have q1 : W2.heap[W.heap.size + 1]? = some (.cells #[.int .i64 (cx + ap), .int .i64 (cy + ap)] 113 (0, 0)) := by
    have := blk_new (W.alloc (.cells #[.int .i64 (cx - ap), .int .i64 (cy - ap)] 113)) (.cells #[.int .i64 (cx + ap), .int .i64 (cy + ap)] 113)
    rw [World.size_alloc] at this; rw [← hW2]; exact this
  have hS := hsrch (.slice a0 C.length cap0) C (cx - ap) (cy - ap) W2 ((RowAt.of_owns own1).below b2) (by omega) hasc
  have p0 := cell_of ((b2.block _ (blk_lt hBp')).trans hBp') 0
  subst hW2
  refine callsIn_of_wp Tryz.func142 rfl trivial ?_ rfl
  simp only [Tryz.ntmps142, List.size_toArray, List.length_cons, List.length_nil, Nat.reduceAdd, Nat.reduceSub, Array.replicate_succ, Array.replicate_zero, List.push_toArray, List.append_toArray, List.nil_append, List.cons_append]
  gi_wp2_with (refine ⟨trivial, ?_⟩; gi_at_call 143; refine (callsIn_wide.2 hS).mono ?_; rintro e w3 ⟨⟨i0, hi0, hso, rfl⟩, b3⟩)
  have hb3 : Below W.heap.size W w3 := b2.trans (b3.mono b2.size)
  have r0 := (b3.block _ (blk_lt q0)).trans q0
  have r1 := (b3.block _ (blk_lt q1)).trans q1
  have hst : nearTo C (cx, cy) ap i0 = [] := nearTo_start fun t d ht hd => hso.2.2.1 t d ht hd
  gi_loopw [7] (fun vi wr => ∃ (i : Nat) (pre : List Nat), i ≤ C.length ∧ vi = .int .i64 (i : Int) ∧ Hid (pre = nearTo C (cx, cy) ap i) ∧ Hid (∀ d, C[i]? = some d → ¬ before d (cx - ap, cy - ap)) ∧ J pre wr ∧ W.heap.size ≤ wr.heap.size ∧ wr.heap[Bp]? = some (.cells #[.slice a0 C.length cap0] 71 (0, 0)) ∧ wr.heap[W.heap.size]? = some (.cells #[.int .i64 (cx - ap), .int .i64 (cy - ap)] 113 (0, 0)) ∧ wr.heap[W.heap.size + 1]? = some (.cells #[.int .i64 (cx + ap), .int .i64 (cy + ap)] 113 (0, 0)) ∧ wr.ownsRow 0 113 2 (.slice a0 C.length cap0) C.length (flatC C)) (fun vi _ => C.length - (intOf vi).toNat)
  case atStart => exact ⟨i0, [], hi0, rfl, hst.symm, fun d hd => hso.2.2.2 i0 d (Nat.le_refl _) hd, hJ _ _ _ h0 ⟨hb3, fun k o hk _ => (hb3.block k (blk_lt hk)).trans hk⟩, hb3.size, (hb3.block _ (blk_lt hBp')).trans hBp', r0, r1, rowBelow own1 hb3⟩
  case round =>
    clear r0 r1 hst hso hi0 hb3 b3 q0 q1 b2 p0 c0 c1 c2 e0 e1 e2 hS
    obtain ⟨i, pre, hi, rfl, hpre, hnb, hJs, hsz, hbp, hbl, hbm, own⟩ := hrel
    by_cases hlt : i < C.length
    · have hd : decide ((i : Int) < (C.length : Int)) = true := decide_eq_true (by omega)
      have hii : (i : Int) < (C.length : Int) := by omega
      obtain ⟨⟨x, y⟩, hs⟩ : ∃ d, C[i]? = some d := ⟨C[i], by simp [hlt]⟩
      obtain ⟨G, rfl, hg, hget⟩ := (RowAt.of_owns own).get hs
      obtain ⟨d0, d1⟩ := hget wr (Below.refl _ _)
      simp only at d0 d1
      have hcm := fun w => hcmp x y (cx + ap) (cy + ap) w
      obtain ⟨r, hr⟩ : ∃ r, cmpC (x, y) (cx + ap, cy + ap) = r := ⟨_, rfl⟩
      simp only [hr] at hcm
      gi_wp2_with (fail)
      have hC0 : (fun V : World => V.heap[Bp]? = some (.cells #[.slice (some ⟨G, 0, none⟩) C.length cap0] 71 (0, 0)) ∧ V.heap[W.heap.size]? = some (.cells #[.int .i64 (cx - ap), .int .i64 (cy - ap)] 113 (0, 0)) ∧ V.heap[W.heap.size + 1]? = some (.cells #[.int .i64 (cx + ap), .int .i64 (cy + ap)] 113 (0, 0)) ∧ V.cell? ⟨G, i * 2, none⟩ = some (.int .i64 x) ∧ V.cell? ⟨G, i * 2 + 1, none⟩ = some (.int .i64 y)) wr.drew := ⟨hbp, hbl, hbm, d0, d1⟩
      refine wpIn_region_any (by kernel_rfl) (wpAnyC.any (C := fun V : World => V.heap[Bp]? = some (.cells #[.slice (some ⟨G, 0, none⟩) C.length cap0] 71 (0, 0)) ∧ V.heap[W.heap.size]? = some (.cells #[.int .i64 (cx - ap), .int .i64 (cy - ap)] 113 (0, 0)) ∧ V.heap[W.heap.size + 1]? = some (.cells #[.int .i64 (cx + ap), .int .i64 (cy + ap)] 113 (0, 0)) ∧ V.cell? ⟨G, i * 2, none⟩ = some (.int .i64 x) ∧ V.cell? ⟨G, i * 2 + 1, none⟩ = some (.int .i64 y)) ?_)
      change wpAnyC _ _ _ _ _ _ _ _ _ _ (World.drew _)
      refine wpAnyC_takeN 0 (some 33) (.int .i64 (i : Int)) hC0 rfl rfl rfl (by kernel_rfl) (by kernel_rfl) (by kernel_rfl) (fun _ _ _ h => h) ⟨by rfl, fun V hV => ⟨rfl, by obtain ⟨k0, k1, k2, k3, k4⟩ := hV; have a0 := cell_of k0 0; have a1 := cell_of k1 0; have a2 := cell_of k1 1; have a3 := cell_of k2 0; have a4 := cell_of k2 1; go_simp⟩⟩ ?_
      go_frame
      refine wpAnyC_takeN 1 (some 34) (.slice (some ⟨G, 0, none⟩) C.length cap0) hC0 rfl rfl rfl (by kernel_rfl) (by kernel_rfl) (by kernel_rfl) (fun _ _ _ h => h) ⟨by rfl, fun V hV => ⟨rfl, by obtain ⟨k0, k1, k2, k3, k4⟩ := hV; have a0 := cell_of k0 0; have a1 := cell_of k1 0; have a2 := cell_of k1 1; have a3 := cell_of k2 0; have a4 := cell_of k2 1; go_simp⟩⟩ ?_
      go_frame
      refine wpAnyC_takeN 2 (some 35) (.int .i64 (C.length : Int)) hC0 rfl rfl rfl (by kernel_rfl) (by kernel_rfl) (by kernel_rfl) (fun _ _ _ h => h) ⟨by rfl, fun V hV => ⟨by simp [Oper.about, resolve, Target.leads, go_sem], by obtain ⟨k0, k1, k2, k3, k4⟩ := hV; have a0 := cell_of k0 0; have a1 := cell_of k1 0; have a2 := cell_of k1 1; have a3 := cell_of k2 0; have a4 := cell_of k2 1; go_simp⟩⟩ ?_
      go_frame
      refine wpAnyC_takeN 3 (some 36) (.bool true) hC0 rfl rfl rfl (by kernel_rfl) (by kernel_rfl) (by kernel_rfl) (fun _ _ _ h => h) ⟨by rfl, fun V hV => ⟨rfl, by obtain ⟨k0, k1, k2, k3, k4⟩ := hV; have a0 := cell_of k0 0; have a1 := cell_of k1 0; have a2 := cell_of k1 1; have a3 := cell_of k2 0; have a4 := cell_of k2 1; go_simp⟩⟩ ?_
      go_frame
      refine wpAnyC_takeN 4 (some 37) (.bool true) hC0 rfl rfl rfl (by kernel_rfl) (by kernel_rfl) (by kernel_rfl) (fun _ _ _ h => h) ⟨by rfl, fun V hV => ⟨rfl, by obtain ⟨k0, k1, k2, k3, k4⟩ := hV; have a0 := cell_of k0 0; have a1 := cell_of k1 0; have a2 := cell_of k1 1; have a3 := cell_of k2 0; have a4 := cell_of k2 1; go_simp⟩⟩ ?_
      go_frame
      refine wpAnyC_takeN 5 (some 38) (.slice (some ⟨G, 0, none⟩) C.length cap0) hC0 rfl rfl rfl (by kernel_rfl) (by kernel_rfl) (by kernel_rfl) (fun _ _ _ h => h) ⟨by rfl, fun V hV => ⟨rfl, by obtain ⟨k0, k1, k2, k3, k4⟩ := hV; have a0 := cell_of k0 0; have a1 := cell_of k1 0; have a2 := cell_of k1 1; have a3 := cell_of k2 0; have a4 := cell_of k2 1; go_simp⟩⟩ ?_
      go_frame
      refine wpAnyC_takeN 6 (some 39) (.int .i64 (i : Int)) hC0 rfl rfl rfl (by kernel_rfl) (by kernel_rfl) (by kernel_rfl) (fun _ _ _ h => h) ⟨by rfl, fun V hV => ⟨rfl, by obtain ⟨k0, k1, k2, k3, k4⟩ := hV; have a0 := cell_of k0 0; have a1 := cell_of k1 0; have a2 := cell_of k1 1; have a3 := cell_of k2 0; have a4 := cell_of k2 1; go_simp⟩⟩ ?_
      go_frame
      refine wpAnyC_takeN 7 (some 40) (.pointer (some ⟨G, i * 2, none⟩)) hC0 rfl rfl rfl (by kernel_rfl) (by kernel_rfl) (by kernel_rfl) (fun _ _ _ h => h) ⟨by rfl, fun V hV => ⟨rfl, by obtain ⟨k0, k1, k2, k3, k4⟩ := hV; have a0 := cell_of k0 0; have a1 := cell_of k1 0; have a2 := cell_of k1 1; have a3 := cell_of k2 0; have a4 := cell_of k2 1; go_simp⟩⟩ ?_
      go_frame
      refine wpAnyC_takeN 8 (some 41) (.agg #[.int .i64 x, .int .i64 y]) hC0 rfl rfl rfl (by kernel_rfl) (by kernel_rfl) (by kernel_rfl) (fun _ _ _ h => h) ⟨by rfl, fun V hV => ⟨rfl, by obtain ⟨k0, k1, k2, k3, k4⟩ := hV; have a0 := cell_of k0 0; have a1 := cell_of k1 0; have a2 := cell_of k1 1; have a3 := cell_of k2 0; have a4 := cell_of k2 1; go_simp⟩⟩ ?_
      go_frame
      refine wpAnyC_takeN 9 (some 42) (.agg #[.int .i64 (cx + ap), .int .i64 (cy + ap)]) hC0 rfl rfl rfl (by kernel_rfl) (by kernel_rfl) (by kernel_rfl) (fun _ _ _ h => h) ⟨by rfl, fun V hV => ⟨rfl, by obtain ⟨k0, k1, k2, k3, k4⟩ := hV; have a0 := cell_of k0 0; have a1 := cell_of k1 0; have a2 := cell_of k1 1; have a3 := cell_of k2 0; have a4 := cell_of k2 1; go_simp⟩⟩ ?_
      go_frame
      refine wpAnyC_one (i := 10) (by kernel_rfl) rfl (by rfl) (fun K hK => ?_)
      go_simp
      refine ⟨trivial, (callsIn_wide.2 (hcm _)).mono ?_⟩
      rintro e w5 ⟨rfl, b5⟩
      have b5' : Below wr.heap.size wr w5 := ((Below.refl _ wr).drew).trans b5
      have hC5 : (fun V : World => V.heap[Bp]? = some (.cells #[.slice (some ⟨G, 0, none⟩) C.length cap0] 71 (0, 0)) ∧ V.heap[W.heap.size]? = some (.cells #[.int .i64 (cx - ap), .int .i64 (cy - ap)] 113 (0, 0)) ∧ V.heap[W.heap.size + 1]? = some (.cells #[.int .i64 (cx + ap), .int .i64 (cy + ap)] 113 (0, 0)) ∧ V.cell? ⟨G, i * 2, none⟩ = some (.int .i64 x) ∧ V.cell? ⟨G, i * 2 + 1, none⟩ = some (.int .i64 y)) w5 := ⟨(b5'.block _ (blk_lt hbp)).trans hbp, (b5'.block _ (blk_lt hbl)).trans hbl, (b5'.block _ (blk_lt hbm)).trans hbm, (World.cell?_of_block (b5'.block _ hg)).trans d0, (World.cell?_of_block (b5'.block _ hg)).trans d1⟩
      refine hK _ _ hC5 ?_
      clear hK K
      refine wpAnyC_one (i := 11) (by kernel_rfl) rfl (by rfl) (fun K hK => ?_)
      go_simp
      refine hK _ _ hC5 ?_
      clear hK K
      refine wpAnyC_one (i := 12) (by kernel_rfl) rfl (by rfl) (fun K hK => ?_)
      go_simp
      refine hK _ _ hC5 ?_
      clear hK K
      refine wpAnyC_done (by kernel_rfl) ?_ _
      have hJ5 : J pre w5 := hJ _ _ _ hJs ⟨b5'.mono hsz, fun k o hk _ => (b5'.block k (blk_lt hk)).trans hk⟩
      have own5 := rowBelow own b5'
      by_cases hr0 : r ≤ 0
      · have hrd : decide (r ≤ 0) = true := decide_eq_true hr0
        gi_wp2_with (fail)
        have hC6 : (fun V : World => V.heap[Bp]? = some (.cells #[.slice (some ⟨G, 0, none⟩) C.length cap0] 71 (0, 0)) ∧ V.heap[W.heap.size]? = some (.cells #[.int .i64 (cx - ap), .int .i64 (cy - ap)] 113 (0, 0)) ∧ V.heap[W.heap.size + 1]? = some (.cells #[.int .i64 (cx + ap), .int .i64 (cy + ap)] 113 (0, 0)) ∧ V.cell? ⟨G, i * 2, none⟩ = some (.int .i64 x) ∧ V.cell? ⟨G, i * 2 + 1, none⟩ = some (.int .i64 y)) w5.drew := hC5
        have bd : Below w5.heap.size w5 w5.drew := (Below.refl _ _).drew
        have hJ6 : J pre w5.drew := hJ _ _ _ hJ5 ⟨bd.mono (Nat.le_trans hsz b5'.size), fun k o hk _ => hk⟩
        have own6 := rowBelow own5 bd
        have hsz6 : W.heap.size ≤ w5.drew.heap.size := Nat.le_trans hsz b5'.size
        have HN : Hid (∀ d, C[i + 1]? = some d → ¬ before d (cx - ap, cy - ap)) := fun d hd hb => hnb.out (x, y) hs (before_trans (asc_at hasc hs hd (by omega)) hb)
        have hng : ¬ before (cx + ap, cy + ap) (x, y) := fun h => by
          have h1 : ¬ before (x, y) (cx + ap, cy + ap) := fun h' => by unfold before at h h'; simp only at h h'; omega
          have h2 : ¬ (x, y) = (cx + ap, cy + ap) := fun h' => by unfold before at h; simp only [Prod.mk.injEq] at h h'; omega
          have h3 : ¬ r < 0 := fun h' => h1 ((cmpC_lt _ _).1 (hr ▸ h'))
          have h4 : ¬ r = 0 := fun h' => h2 ((cmpC_eq _ _).1 (hr.trans h'))
          omega
        have hnl := hnb.out (x, y) hs
        have HP : Hid (nearTo C (cx, cy) ap (i + 1) = pre ++ (if nearB ap (cx, cy) (x, y) = true then [i] else [])) := by
          show _ = _
          rw [hpre.out]
          exact nearTo_succ C (cx, cy) ap i hs
        have HB : Hid (nearB ap (cx, cy) (x, y) = (decide (cx - ap ≤ x) && decide (x ≤ cx + ap))) := by
          show _ = _
          unfold before at hnl hng
          simp only at hnl hng
          simp only [nearB]
          by_cases q0 : cx - ap ≤ x <;> by_cases q1 : x ≤ cx + ap <;> simp [q0, q1] <;> omega
        clear hnl hng
        by_cases hx0 : cx - ap ≤ x
        · have hx0d : decide (cx - ap ≤ x) = true := decide_eq_true hx0
          by_cases hx1 : x ≤ cx + ap
          · have hx1d : decide (x ≤ cx + ap) = true := decide_eq_true hx1
            have HE : Hid (pre ++ [i] = nearTo C (cx, cy) ap (i + 1)) := by
              show _ = _
              rw [HP.out, HB.out, hx0d, hx1d]
              simp
            refine wpIn_region_any (by kernel_rfl) (wpAnyC.any (C := (fun V : World => V.heap[Bp]? = some (.cells #[.slice (some ⟨G, 0, none⟩) C.length cap0] 71 (0, 0)) ∧ V.heap[W.heap.size]? = some (.cells #[.int .i64 (cx - ap), .int .i64 (cy - ap)] 113 (0, 0)) ∧ V.heap[W.heap.size + 1]? = some (.cells #[.int .i64 (cx + ap), .int .i64 (cy + ap)] 113 (0, 0)) ∧ V.cell? ⟨G, i * 2, none⟩ = some (.int .i64 x) ∧ V.cell? ⟨G, i * 2 + 1, none⟩ = some (.int .i64 y))) ?_)
            change wpAnyC _ _ _ _ _ _ _ _ _ _ (World.drew _)
            refine wpAnyC_takeN 0 (some 48) (.pointer (some ⟨W.heap.size, 0, none⟩)) hC6 rfl rfl rfl (by kernel_rfl) (by kernel_rfl) (by kernel_rfl) (fun _ _ _ h => h) ⟨by rfl, fun V hV => ⟨rfl, by obtain ⟨k0, k1, k2, k3, k4⟩ := hV; have a0 := cell_of k0 0; have a1 := cell_of k1 0; have a2 := cell_of k1 1; have a3 := cell_of k2 0; have a4 := cell_of k2 1; go_simp⟩⟩ ?_
            go_frame
            refine wpAnyC_takeN 1 (some 49) (.int .i64 (cx - ap)) hC6 rfl rfl rfl (by kernel_rfl) (by kernel_rfl) (by kernel_rfl) (fun _ _ _ h => h) ⟨by rfl, fun V hV => ⟨rfl, by obtain ⟨k0, k1, k2, k3, k4⟩ := hV; have a0 := cell_of k0 0; have a1 := cell_of k1 0; have a2 := cell_of k1 1; have a3 := cell_of k2 0; have a4 := cell_of k2 1; go_simp⟩⟩ ?_
            go_frame
            refine wpAnyC_takeN 2 (some 50) (.slice (some ⟨G, 0, none⟩) C.length cap0) hC6 rfl rfl rfl (by kernel_rfl) (by kernel_rfl) (by kernel_rfl) (fun _ _ _ h => h) ⟨by rfl, fun V hV => ⟨rfl, by obtain ⟨k0, k1, k2, k3, k4⟩ := hV; have a0 := cell_of k0 0; have a1 := cell_of k1 0; have a2 := cell_of k1 1; have a3 := cell_of k2 0; have a4 := cell_of k2 1; go_simp⟩⟩ ?_
            go_frame
            refine wpAnyC_takeN 3 (some 51) (.int .i64 (i : Int)) hC6 rfl rfl rfl (by kernel_rfl) (by kernel_rfl) (by kernel_rfl) (fun _ _ _ h => h) ⟨by rfl, fun V hV => ⟨rfl, by obtain ⟨k0, k1, k2, k3, k4⟩ := hV; have a0 := cell_of k0 0; have a1 := cell_of k1 0; have a2 := cell_of k1 1; have a3 := cell_of k2 0; have a4 := cell_of k2 1; go_simp⟩⟩ ?_
            go_frame
            refine wpAnyC_takeN 4 (some 52) (.pointer (some ⟨G, i * 2, none⟩)) hC6 rfl rfl rfl (by kernel_rfl) (by kernel_rfl) (by kernel_rfl) (fun _ _ _ h => h) ⟨by rfl, fun V hV => ⟨rfl, by obtain ⟨k0, k1, k2, k3, k4⟩ := hV; have a0 := cell_of k0 0; have a1 := cell_of k1 0; have a2 := cell_of k1 1; have a3 := cell_of k2 0; have a4 := cell_of k2 1; go_simp⟩⟩ ?_
            go_frame
            refine wpAnyC_takeN 5 (some 53) (.pointer (some ⟨G, i * 2, none⟩)) hC6 rfl rfl rfl (by kernel_rfl) (by kernel_rfl) (by kernel_rfl) (fun _ _ _ h => h) ⟨by rfl, fun V hV => ⟨rfl, by obtain ⟨k0, k1, k2, k3, k4⟩ := hV; have a0 := cell_of k0 0; have a1 := cell_of k1 0; have a2 := cell_of k1 1; have a3 := cell_of k2 0; have a4 := cell_of k2 1; go_simp⟩⟩ ?_
            go_frame
            refine wpAnyC_takeN 6 (some 54) (.int .i64 x) hC6 rfl rfl rfl (by kernel_rfl) (by kernel_rfl) (by kernel_rfl) (fun _ _ _ h => h) ⟨by rfl, fun V hV => ⟨rfl, by obtain ⟨k0, k1, k2, k3, k4⟩ := hV; have a0 := cell_of k0 0; have a1 := cell_of k1 0; have a2 := cell_of k1 1; have a3 := cell_of k2 0; have a4 := cell_of k2 1; go_simp⟩⟩ ?_
            go_frame
            refine wpAnyC_takeN 7 (some 55) (.bool true) hC6 rfl rfl rfl (by kernel_rfl) (by kernel_rfl) (by kernel_rfl) (fun _ _ _ h => h) ⟨by rfl, fun V hV => ⟨rfl, by obtain ⟨k0, k1, k2, k3, k4⟩ := hV; have a0 := cell_of k0 0; have a1 := cell_of k1 0; have a2 := cell_of k1 1; have a3 := cell_of k2 0; have a4 := cell_of k2 1; go_simp⟩⟩ ?_
            go_frame
            refine wpAnyC_takeN 8 (some 56) (.bool true) hC6 rfl rfl rfl (by kernel_rfl) (by kernel_rfl) (by kernel_rfl) (fun _ _ _ h => h) ⟨by rfl, fun V hV => ⟨rfl, by obtain ⟨k0, k1, k2, k3, k4⟩ := hV; have a0 := cell_of k0 0; have a1 := cell_of k1 0; have a2 := cell_of k1 1; have a3 := cell_of k2 0; have a4 := cell_of k2 1; go_simp⟩⟩ ?_
            go_frame
            refine wpAnyC_takeN 9 (some 57) (.slice (some ⟨G, 0, none⟩) C.length cap0) hC6 rfl rfl rfl (by kernel_rfl) (by kernel_rfl) (by kernel_rfl) (fun _ _ _ h => h) ⟨by rfl, fun V hV => ⟨rfl, by obtain ⟨k0, k1, k2, k3, k4⟩ := hV; have a0 := cell_of k0 0; have a1 := cell_of k1 0; have a2 := cell_of k1 1; have a3 := cell_of k2 0; have a4 := cell_of k2 1; go_simp⟩⟩ ?_
            go_frame
            refine wpAnyC_takeN 10 (some 58) (.int .i64 (i : Int)) hC6 rfl rfl rfl (by kernel_rfl) (by kernel_rfl) (by kernel_rfl) (fun _ _ _ h => h) ⟨by rfl, fun V hV => ⟨rfl, by obtain ⟨k0, k1, k2, k3, k4⟩ := hV; have a0 := cell_of k0 0; have a1 := cell_of k1 0; have a2 := cell_of k1 1; have a3 := cell_of k2 0; have a4 := cell_of k2 1; go_simp⟩⟩ ?_
            go_frame
            refine wpAnyC_takeN 11 (some 59) (.pointer (some ⟨G, i * 2, none⟩)) hC6 rfl rfl rfl (by kernel_rfl) (by kernel_rfl) (by kernel_rfl) (fun _ _ _ h => h) ⟨by rfl, fun V hV => ⟨rfl, by obtain ⟨k0, k1, k2, k3, k4⟩ := hV; have a0 := cell_of k0 0; have a1 := cell_of k1 0; have a2 := cell_of k1 1; have a3 := cell_of k2 0; have a4 := cell_of k2 1; go_simp⟩⟩ ?_
            go_frame
            refine wpAnyC_takeN 12 (some 60) (.pointer (some ⟨G, i * 2, none⟩)) hC6 rfl rfl rfl (by kernel_rfl) (by kernel_rfl) (by kernel_rfl) (fun _ _ _ h => h) ⟨by rfl, fun V hV => ⟨rfl, by obtain ⟨k0, k1, k2, k3, k4⟩ := hV; have a0 := cell_of k0 0; have a1 := cell_of k1 0; have a2 := cell_of k1 1; have a3 := cell_of k2 0; have a4 := cell_of k2 1; go_simp⟩⟩ ?_
            go_frame
            refine wpAnyC_takeN 13 (some 61) (.int .i64 x) hC6 rfl rfl rfl (by kernel_rfl) (by kernel_rfl) (by kernel_rfl) (fun _ _ _ h => h) ⟨by rfl, fun V hV => ⟨rfl, by obtain ⟨k0, k1, k2, k3, k4⟩ := hV; have a0 := cell_of k0 0; have a1 := cell_of k1 0; have a2 := cell_of k1 1; have a3 := cell_of k2 0; have a4 := cell_of k2 1; go_simp⟩⟩ ?_
            go_frame
            refine wpAnyC_takeN 14 (some 62) (.pointer (some ⟨W.heap.size + 1, 0, none⟩)) hC6 rfl rfl rfl (by kernel_rfl) (by kernel_rfl) (by kernel_rfl) (fun _ _ _ h => h) ⟨by rfl, fun V hV => ⟨rfl, by obtain ⟨k0, k1, k2, k3, k4⟩ := hV; have a0 := cell_of k0 0; have a1 := cell_of k1 0; have a2 := cell_of k1 1; have a3 := cell_of k2 0; have a4 := cell_of k2 1; go_simp⟩⟩ ?_
            go_frame
            refine wpAnyC_takeN 15 (some 63) (.int .i64 (cx + ap)) hC6 rfl rfl rfl (by kernel_rfl) (by kernel_rfl) (by kernel_rfl) (fun _ _ _ h => h) ⟨by rfl, fun V hV => ⟨rfl, by obtain ⟨k0, k1, k2, k3, k4⟩ := hV; have a0 := cell_of k0 0; have a1 := cell_of k1 0; have a2 := cell_of k1 1; have a3 := cell_of k2 0; have a4 := cell_of k2 1; go_simp⟩⟩ ?_
            go_frame
            refine wpAnyC_takeN 16 (some 64) (.bool true) hC6 rfl rfl rfl (by kernel_rfl) (by kernel_rfl) (by kernel_rfl) (fun _ _ _ h => h) ⟨by rfl, fun V hV => ⟨rfl, by obtain ⟨k0, k1, k2, k3, k4⟩ := hV; have a0 := cell_of k0 0; have a1 := cell_of k1 0; have a2 := cell_of k1 1; have a3 := cell_of k2 0; have a4 := cell_of k2 1; go_simp⟩⟩ ?_
            go_frame
            refine wpAnyC_takeN 17 (some 65) (.bool true) hC6 rfl rfl rfl (by kernel_rfl) (by kernel_rfl) (by kernel_rfl) (fun _ _ _ h => h) ⟨by rfl, fun V hV => ⟨rfl, by obtain ⟨k0, k1, k2, k3, k4⟩ := hV; have a0 := cell_of k0 0; have a1 := cell_of k1 0; have a2 := cell_of k1 1; have a3 := cell_of k2 0; have a4 := cell_of k2 1; go_simp⟩⟩ ?_
            go_frame
            refine wpAnyC_takeN 18 (some 66) (.bool true) hC6 rfl rfl rfl (by kernel_rfl) (by kernel_rfl) (by kernel_rfl) (fun _ _ _ h => h) ⟨by rfl, fun V hV => ⟨rfl, by obtain ⟨k0, k1, k2, k3, k4⟩ := hV; have a0 := cell_of k0 0; have a1 := cell_of k1 0; have a2 := cell_of k1 1; have a3 := cell_of k2 0; have a4 := cell_of k2 1; go_simp⟩⟩ ?_
            go_frame
            refine wpAnyC_takeN 19 (some 67) (.func (.yield l) #[] #[]) hC6 rfl rfl rfl (by kernel_rfl) (by kernel_rfl) (by kernel_rfl) (fun _ _ _ h => h) ⟨by rfl, fun V hV => ⟨rfl, by obtain ⟨k0, k1, k2, k3, k4⟩ := hV; have a0 := cell_of k0 0; have a1 := cell_of k1 0; have a2 := cell_of k1 1; have a3 := cell_of k2 0; have a4 := cell_of k2 1; go_simp⟩⟩ ?_
            go_frame
            refine wpAnyC_takeN 20 (some 68) (.int .i64 (i : Int)) hC6 rfl rfl rfl (by kernel_rfl) (by kernel_rfl) (by kernel_rfl) (fun _ _ _ h => h) ⟨by rfl, fun V hV => ⟨rfl, by obtain ⟨k0, k1, k2, k3, k4⟩ := hV; have a0 := cell_of k0 0; have a1 := cell_of k1 0; have a2 := cell_of k1 1; have a3 := cell_of k2 0; have a4 := cell_of k2 1; go_simp⟩⟩ ?_
            go_frame
            refine wpAnyC_one (i := 21) (by kernel_rfl) rfl (by rfl) (fun K hK => ?_)
            obtain ⟨fn, tmps, assign, body, hy, hR⟩ := hY pre i w5.drew hJ6 hlt hsz6
            replace hy : (Instr.yield l #[.int .i64 (i : Int)]).run Tryz.prog w5.drew = .ok (.round l fn tmps assign body) w5.drew := hy
            go_simp
            refine hR.mono ?_
            rintro e W7 ⟨rfl, hJ7, hk7⟩
            have own7 := hk7.row own6
            obtain ⟨G', e', hg', hget'⟩ := (RowAt.of_owns own7).get hs
            obtain ⟨d0', d1'⟩ := hget' W7 (Below.refl _ _)
            simp only at d0' d1'
            obtain rfl : G = G' := by simpa using e'
            have hC7 : (fun V : World => V.heap[Bp]? = some (.cells #[.slice (some ⟨G, 0, none⟩) C.length cap0] 71 (0, 0)) ∧ V.heap[W.heap.size]? = some (.cells #[.int .i64 (cx - ap), .int .i64 (cy - ap)] 113 (0, 0)) ∧ V.heap[W.heap.size + 1]? = some (.cells #[.int .i64 (cx + ap), .int .i64 (cy + ap)] 113 (0, 0)) ∧ V.cell? ⟨G, i * 2, none⟩ = some (.int .i64 x) ∧ V.cell? ⟨G, i * 2 + 1, none⟩ = some (.int .i64 y)) W7 := ⟨hk7.same _ _ hC6.1 (.inr rfl), hk7.same _ _ hC6.2.1 (.inl rfl), hk7.same _ _ hC6.2.2.1 (.inl rfl), d0', d1'⟩
            refine hK _ _ hC7 ?_
            clear hK K
            refine wpAnyC_takeN 22 (some 70) (.bool false) hC7 rfl rfl rfl (by kernel_rfl) (by kernel_rfl) (by kernel_rfl) (fun _ _ _ h => h) ⟨by rfl, fun V hV => ⟨rfl, by obtain ⟨k0, k1, k2, k3, k4⟩ := hV; have a0 := cell_of k0 0; have a1 := cell_of k1 0; have a2 := cell_of k1 1; have a3 := cell_of k2 0; have a4 := cell_of k2 1; go_simp⟩⟩ ?_
            go_frame
            refine wpAnyC_takeN 23 (some 71) (.bool false) hC7 rfl rfl rfl (by kernel_rfl) (by kernel_rfl) (by kernel_rfl) (fun _ _ _ h => h) ⟨by rfl, fun V hV => ⟨rfl, by obtain ⟨k0, k1, k2, k3, k4⟩ := hV; have a0 := cell_of k0 0; have a1 := cell_of k1 0; have a2 := cell_of k1 1; have a3 := cell_of k2 0; have a4 := cell_of k2 1; go_simp⟩⟩ ?_
            go_frame
            refine wpAnyC_done (by kernel_rfl) ?_ _
            gi_wp2
            go_roundw
            case rel => exact ⟨i + 1, pre ++ [i], hlt, by simp, HE, HN, hJ7, Nat.le_trans hsz6 hk7.size, hC7.1, hC7.2.1, hC7.2.2.1, own7⟩
            case measure => simp [intOf]; omega
          · have hx1d : decide (x ≤ cx + ap) = false := decide_eq_false hx1
            have HE : Hid (pre = nearTo C (cx, cy) ap (i + 1)) := by
              show _ = _
              rw [HP.out, HB.out, hx0d, hx1d]
              simp
            refine wpIn_region_any (by kernel_rfl) (wpAnyC.any (C := (fun V : World => V.heap[Bp]? = some (.cells #[.slice (some ⟨G, 0, none⟩) C.length cap0] 71 (0, 0)) ∧ V.heap[W.heap.size]? = some (.cells #[.int .i64 (cx - ap), .int .i64 (cy - ap)] 113 (0, 0)) ∧ V.heap[W.heap.size + 1]? = some (.cells #[.int .i64 (cx + ap), .int .i64 (cy + ap)] 113 (0, 0)) ∧ V.cell? ⟨G, i * 2, none⟩ = some (.int .i64 x) ∧ V.cell? ⟨G, i * 2 + 1, none⟩ = some (.int .i64 y))) ?_)
            change wpAnyC _ _ _ _ _ _ _ _ _ _ (World.drew _)
            refine wpAnyC_takeN 0 (some 48) (.pointer (some ⟨W.heap.size, 0, none⟩)) hC6 rfl rfl rfl (by kernel_rfl) (by kernel_rfl) (by kernel_rfl) (fun _ _ _ h => h) ⟨by rfl, fun V hV => ⟨rfl, by obtain ⟨k0, k1, k2, k3, k4⟩ := hV; have a0 := cell_of k0 0; have a1 := cell_of k1 0; have a2 := cell_of k1 1; have a3 := cell_of k2 0; have a4 := cell_of k2 1; go_simp⟩⟩ ?_
            go_frame
            refine wpAnyC_takeN 1 (some 49) (.int .i64 (cx - ap)) hC6 rfl rfl rfl (by kernel_rfl) (by kernel_rfl) (by kernel_rfl) (fun _ _ _ h => h) ⟨by rfl, fun V hV => ⟨rfl, by obtain ⟨k0, k1, k2, k3, k4⟩ := hV; have a0 := cell_of k0 0; have a1 := cell_of k1 0; have a2 := cell_of k1 1; have a3 := cell_of k2 0; have a4 := cell_of k2 1; go_simp⟩⟩ ?_
            go_frame
            refine wpAnyC_takeN 2 (some 50) (.slice (some ⟨G, 0, none⟩) C.length cap0) hC6 rfl rfl rfl (by kernel_rfl) (by kernel_rfl) (by kernel_rfl) (fun _ _ _ h => h) ⟨by rfl, fun V hV => ⟨rfl, by obtain ⟨k0, k1, k2, k3, k4⟩ := hV; have a0 := cell_of k0 0; have a1 := cell_of k1 0; have a2 := cell_of k1 1; have a3 := cell_of k2 0; have a4 := cell_of k2 1; go_simp⟩⟩ ?_
            go_frame
            refine wpAnyC_takeN 3 (some 51) (.int .i64 (i : Int)) hC6 rfl rfl rfl (by kernel_rfl) (by kernel_rfl) (by kernel_rfl) (fun _ _ _ h => h) ⟨by rfl, fun V hV => ⟨rfl, by obtain ⟨k0, k1, k2, k3, k4⟩ := hV; have a0 := cell_of k0 0; have a1 := cell_of k1 0; have a2 := cell_of k1 1; have a3 := cell_of k2 0; have a4 := cell_of k2 1; go_simp⟩⟩ ?_
            go_frame
            refine wpAnyC_takeN 4 (some 52) (.pointer (some ⟨G, i * 2, none⟩)) hC6 rfl rfl rfl (by kernel_rfl) (by kernel_rfl) (by kernel_rfl) (fun _ _ _ h => h) ⟨by rfl, fun V hV => ⟨rfl, by obtain ⟨k0, k1, k2, k3, k4⟩ := hV; have a0 := cell_of k0 0; have a1 := cell_of k1 0; have a2 := cell_of k1 1; have a3 := cell_of k2 0; have a4 := cell_of k2 1; go_simp⟩⟩ ?_
            go_frame
            refine wpAnyC_takeN 5 (some 53) (.pointer (some ⟨G, i * 2, none⟩)) hC6 rfl rfl rfl (by kernel_rfl) (by kernel_rfl) (by kernel_rfl) (fun _ _ _ h => h) ⟨by rfl, fun V hV => ⟨rfl, by obtain ⟨k0, k1, k2, k3, k4⟩ := hV; have a0 := cell_of k0 0; have a1 := cell_of k1 0; have a2 := cell_of k1 1; have a3 := cell_of k2 0; have a4 := cell_of k2 1; go_simp⟩⟩ ?_
            go_frame
            refine wpAnyC_takeN 6 (some 54) (.int .i64 x) hC6 rfl rfl rfl (by kernel_rfl) (by kernel_rfl) (by kernel_rfl) (fun _ _ _ h => h) ⟨by rfl, fun V hV => ⟨rfl, by obtain ⟨k0, k1, k2, k3, k4⟩ := hV; have a0 := cell_of k0 0; have a1 := cell_of k1 0; have a2 := cell_of k1 1; have a3 := cell_of k2 0; have a4 := cell_of k2 1; go_simp⟩⟩ ?_
            go_frame
            refine wpAnyC_takeN 7 (some 55) (.bool true) hC6 rfl rfl rfl (by kernel_rfl) (by kernel_rfl) (by kernel_rfl) (fun _ _ _ h => h) ⟨by rfl, fun V hV => ⟨rfl, by obtain ⟨k0, k1, k2, k3, k4⟩ := hV; have a0 := cell_of k0 0; have a1 := cell_of k1 0; have a2 := cell_of k1 1; have a3 := cell_of k2 0; have a4 := cell_of k2 1; go_simp⟩⟩ ?_
            go_frame
            refine wpAnyC_takeN 8 (some 56) (.bool true) hC6 rfl rfl rfl (by kernel_rfl) (by kernel_rfl) (by kernel_rfl) (fun _ _ _ h => h) ⟨by rfl, fun V hV => ⟨rfl, by obtain ⟨k0, k1, k2, k3, k4⟩ := hV; have a0 := cell_of k0 0; have a1 := cell_of k1 0; have a2 := cell_of k1 1; have a3 := cell_of k2 0; have a4 := cell_of k2 1; go_simp⟩⟩ ?_
            go_frame
            refine wpAnyC_takeN 9 (some 57) (.slice (some ⟨G, 0, none⟩) C.length cap0) hC6 rfl rfl rfl (by kernel_rfl) (by kernel_rfl) (by kernel_rfl) (fun _ _ _ h => h) ⟨by rfl, fun V hV => ⟨rfl, by obtain ⟨k0, k1, k2, k3, k4⟩ := hV; have a0 := cell_of k0 0; have a1 := cell_of k1 0; have a2 := cell_of k1 1; have a3 := cell_of k2 0; have a4 := cell_of k2 1; go_simp⟩⟩ ?_
            go_frame
            refine wpAnyC_takeN 10 (some 58) (.int .i64 (i : Int)) hC6 rfl rfl rfl (by kernel_rfl) (by kernel_rfl) (by kernel_rfl) (fun _ _ _ h => h) ⟨by rfl, fun V hV => ⟨rfl, by obtain ⟨k0, k1, k2, k3, k4⟩ := hV; have a0 := cell_of k0 0; have a1 := cell_of k1 0; have a2 := cell_of k1 1; have a3 := cell_of k2 0; have a4 := cell_of k2 1; go_simp⟩⟩ ?_
            go_frame
            refine wpAnyC_takeN 11 (some 59) (.pointer (some ⟨G, i * 2, none⟩)) hC6 rfl rfl rfl (by kernel_rfl) (by kernel_rfl) (by kernel_rfl) (fun _ _ _ h => h) ⟨by rfl, fun V hV => ⟨rfl, by obtain ⟨k0, k1, k2, k3, k4⟩ := hV; have a0 := cell_of k0 0; have a1 := cell_of k1 0; have a2 := cell_of k1 1; have a3 := cell_of k2 0; have a4 := cell_of k2 1; go_simp⟩⟩ ?_
            go_frame
            refine wpAnyC_takeN 12 (some 60) (.pointer (some ⟨G, i * 2, none⟩)) hC6 rfl rfl rfl (by kernel_rfl) (by kernel_rfl) (by kernel_rfl) (fun _ _ _ h => h) ⟨by rfl, fun V hV => ⟨rfl, by obtain ⟨k0, k1, k2, k3, k4⟩ := hV; have a0 := cell_of k0 0; have a1 := cell_of k1 0; have a2 := cell_of k1 1; have a3 := cell_of k2 0; have a4 := cell_of k2 1; go_simp⟩⟩ ?_
            go_frame
            refine wpAnyC_takeN 13 (some 61) (.int .i64 x) hC6 rfl rfl rfl (by kernel_rfl) (by kernel_rfl) (by kernel_rfl) (fun _ _ _ h => h) ⟨by rfl, fun V hV => ⟨rfl, by obtain ⟨k0, k1, k2, k3, k4⟩ := hV; have a0 := cell_of k0 0; have a1 := cell_of k1 0; have a2 := cell_of k1 1; have a3 := cell_of k2 0; have a4 := cell_of k2 1; go_simp⟩⟩ ?_
            go_frame
            refine wpAnyC_takeN 14 (some 62) (.pointer (some ⟨W.heap.size + 1, 0, none⟩)) hC6 rfl rfl rfl (by kernel_rfl) (by kernel_rfl) (by kernel_rfl) (fun _ _ _ h => h) ⟨by rfl, fun V hV => ⟨rfl, by obtain ⟨k0, k1, k2, k3, k4⟩ := hV; have a0 := cell_of k0 0; have a1 := cell_of k1 0; have a2 := cell_of k1 1; have a3 := cell_of k2 0; have a4 := cell_of k2 1; go_simp⟩⟩ ?_
            go_frame
            refine wpAnyC_takeN 15 (some 63) (.int .i64 (cx + ap)) hC6 rfl rfl rfl (by kernel_rfl) (by kernel_rfl) (by kernel_rfl) (fun _ _ _ h => h) ⟨by rfl, fun V hV => ⟨rfl, by obtain ⟨k0, k1, k2, k3, k4⟩ := hV; have a0 := cell_of k0 0; have a1 := cell_of k1 0; have a2 := cell_of k1 1; have a3 := cell_of k2 0; have a4 := cell_of k2 1; go_simp⟩⟩ ?_
            go_frame
            refine wpAnyC_takeN 16 (some 64) (.bool false) hC6 rfl rfl rfl (by kernel_rfl) (by kernel_rfl) (by kernel_rfl) (fun _ _ _ h => h) ⟨by rfl, fun V hV => ⟨rfl, by obtain ⟨k0, k1, k2, k3, k4⟩ := hV; have a0 := cell_of k0 0; have a1 := cell_of k1 0; have a2 := cell_of k1 1; have a3 := cell_of k2 0; have a4 := cell_of k2 1; go_simp⟩⟩ ?_
            go_frame
            refine wpAnyC_takeN 17 (some 65) (.bool false) hC6 rfl rfl rfl (by kernel_rfl) (by kernel_rfl) (by kernel_rfl) (fun _ _ _ h => h) ⟨by rfl, fun V hV => ⟨rfl, by obtain ⟨k0, k1, k2, k3, k4⟩ := hV; have a0 := cell_of k0 0; have a1 := cell_of k1 0; have a2 := cell_of k1 1; have a3 := cell_of k2 0; have a4 := cell_of k2 1; go_simp⟩⟩ ?_
            go_frame
            refine wpAnyC_takeN 18 (some 66) (.bool false) hC6 rfl rfl rfl (by kernel_rfl) (by kernel_rfl) (by kernel_rfl) (fun _ _ _ h => h) ⟨by rfl, fun V hV => ⟨rfl, by obtain ⟨k0, k1, k2, k3, k4⟩ := hV; have a0 := cell_of k0 0; have a1 := cell_of k1 0; have a2 := cell_of k1 1; have a3 := cell_of k2 0; have a4 := cell_of k2 1; go_simp⟩⟩ ?_
            go_frame
            refine wpAnyC_skipN 19 (some 67) hC6 rfl (fun _ => trivial) rfl rfl (by kernel_rfl) (by kernel_rfl) (by kernel_rfl) (fun _ _ _ h => h) (by rfl) ?_
            go_frame
            refine wpAnyC_skipN 20 (some 68) hC6 rfl (fun _ => trivial) rfl rfl (by kernel_rfl) (by kernel_rfl) (by kernel_rfl) (fun _ _ _ h => h) (by rfl) ?_
            go_frame
            refine wpAnyC_skipN 21 (some 69) hC6 rfl (fun _ => trivial) rfl rfl (by kernel_rfl) (by kernel_rfl) (by kernel_rfl) (fun _ _ _ h => h) (by rfl) ?_
            go_frame
            refine wpAnyC_skipN 22 (some 70) hC6 rfl (fun _ => trivial) rfl rfl (by kernel_rfl) (by kernel_rfl) (by kernel_rfl) (fun _ _ _ h => h) (by rfl) ?_
            go_frame
            refine wpAnyC_takeN 23 (some 71) (.bool false) hC6 rfl rfl rfl (by kernel_rfl) (by kernel_rfl) (by kernel_rfl) (fun _ _ _ h => h) ⟨by rfl, fun V hV => ⟨rfl, by obtain ⟨k0, k1, k2, k3, k4⟩ := hV; have a0 := cell_of k0 0; have a1 := cell_of k1 0; have a2 := cell_of k1 1; have a3 := cell_of k2 0; have a4 := cell_of k2 1; go_simp⟩⟩ ?_
            go_frame
            refine wpAnyC_done (by kernel_rfl) ?_ _
            gi_wp2
            go_roundw
            case rel => exact ⟨i + 1, pre, hlt, by simp, HE, HN, hJ6, hsz6, hC6.1, hC6.2.1, hC6.2.2.1, own6⟩
            case measure => simp [intOf]; omega
        · have hx0d : decide (cx - ap ≤ x) = false := decide_eq_false hx0
          have HE : Hid (pre = nearTo C (cx, cy) ap (i + 1)) := by
            show _ = _
            rw [HP.out, HB.out, hx0d]
            simp
          refine wpIn_region_any (by kernel_rfl) (wpAnyC.any (C := (fun V : World => V.heap[Bp]? = some (.cells #[.slice (some ⟨G, 0, none⟩) C.length cap0] 71 (0, 0)) ∧ V.heap[W.heap.size]? = some (.cells #[.int .i64 (cx - ap), .int .i64 (cy - ap)] 113 (0, 0)) ∧ V.heap[W.heap.size + 1]? = some (.cells #[.int .i64 (cx + ap), .int .i64 (cy + ap)] 113 (0, 0)) ∧ V.cell? ⟨G, i * 2, none⟩ = some (.int .i64 x) ∧ V.cell? ⟨G, i * 2 + 1, none⟩ = some (.int .i64 y))) ?_)
          change wpAnyC _ _ _ _ _ _ _ _ _ _ (World.drew _)
          refine wpAnyC_takeN 0 (some 48) (.pointer (some ⟨W.heap.size, 0, none⟩)) hC6 rfl rfl rfl (by kernel_rfl) (by kernel_rfl) (by kernel_rfl) (fun _ _ _ h => h) ⟨by rfl, fun V hV => ⟨rfl, by obtain ⟨k0, k1, k2, k3, k4⟩ := hV; have a0 := cell_of k0 0; have a1 := cell_of k1 0; have a2 := cell_of k1 1; have a3 := cell_of k2 0; have a4 := cell_of k2 1; go_simp⟩⟩ ?_
          go_frame
          refine wpAnyC_takeN 1 (some 49) (.int .i64 (cx - ap)) hC6 rfl rfl rfl (by kernel_rfl) (by kernel_rfl) (by kernel_rfl) (fun _ _ _ h => h) ⟨by rfl, fun V hV => ⟨rfl, by obtain ⟨k0, k1, k2, k3, k4⟩ := hV; have a0 := cell_of k0 0; have a1 := cell_of k1 0; have a2 := cell_of k1 1; have a3 := cell_of k2 0; have a4 := cell_of k2 1; go_simp⟩⟩ ?_
          go_frame
          refine wpAnyC_takeN 2 (some 50) (.slice (some ⟨G, 0, none⟩) C.length cap0) hC6 rfl rfl rfl (by kernel_rfl) (by kernel_rfl) (by kernel_rfl) (fun _ _ _ h => h) ⟨by rfl, fun V hV => ⟨rfl, by obtain ⟨k0, k1, k2, k3, k4⟩ := hV; have a0 := cell_of k0 0; have a1 := cell_of k1 0; have a2 := cell_of k1 1; have a3 := cell_of k2 0; have a4 := cell_of k2 1; go_simp⟩⟩ ?_
          go_frame
          refine wpAnyC_takeN 3 (some 51) (.int .i64 (i : Int)) hC6 rfl rfl rfl (by kernel_rfl) (by kernel_rfl) (by kernel_rfl) (fun _ _ _ h => h) ⟨by rfl, fun V hV => ⟨rfl, by obtain ⟨k0, k1, k2, k3, k4⟩ := hV; have a0 := cell_of k0 0; have a1 := cell_of k1 0; have a2 := cell_of k1 1; have a3 := cell_of k2 0; have a4 := cell_of k2 1; go_simp⟩⟩ ?_
          go_frame
          refine wpAnyC_takeN 4 (some 52) (.pointer (some ⟨G, i * 2, none⟩)) hC6 rfl rfl rfl (by kernel_rfl) (by kernel_rfl) (by kernel_rfl) (fun _ _ _ h => h) ⟨by rfl, fun V hV => ⟨rfl, by obtain ⟨k0, k1, k2, k3, k4⟩ := hV; have a0 := cell_of k0 0; have a1 := cell_of k1 0; have a2 := cell_of k1 1; have a3 := cell_of k2 0; have a4 := cell_of k2 1; go_simp⟩⟩ ?_
          go_frame
          refine wpAnyC_takeN 5 (some 53) (.pointer (some ⟨G, i * 2, none⟩)) hC6 rfl rfl rfl (by kernel_rfl) (by kernel_rfl) (by kernel_rfl) (fun _ _ _ h => h) ⟨by rfl, fun V hV => ⟨rfl, by obtain ⟨k0, k1, k2, k3, k4⟩ := hV; have a0 := cell_of k0 0; have a1 := cell_of k1 0; have a2 := cell_of k1 1; have a3 := cell_of k2 0; have a4 := cell_of k2 1; go_simp⟩⟩ ?_
          go_frame
          refine wpAnyC_takeN 6 (some 54) (.int .i64 x) hC6 rfl rfl rfl (by kernel_rfl) (by kernel_rfl) (by kernel_rfl) (fun _ _ _ h => h) ⟨by rfl, fun V hV => ⟨rfl, by obtain ⟨k0, k1, k2, k3, k4⟩ := hV; have a0 := cell_of k0 0; have a1 := cell_of k1 0; have a2 := cell_of k1 1; have a3 := cell_of k2 0; have a4 := cell_of k2 1; go_simp⟩⟩ ?_
          go_frame
          refine wpAnyC_takeN 7 (some 55) (.bool false) hC6 rfl rfl rfl (by kernel_rfl) (by kernel_rfl) (by kernel_rfl) (fun _ _ _ h => h) ⟨by rfl, fun V hV => ⟨rfl, by obtain ⟨k0, k1, k2, k3, k4⟩ := hV; have a0 := cell_of k0 0; have a1 := cell_of k1 0; have a2 := cell_of k1 1; have a3 := cell_of k2 0; have a4 := cell_of k2 1; go_simp⟩⟩ ?_
          go_frame
          refine wpAnyC_takeN 8 (some 56) (.bool false) hC6 rfl rfl rfl (by kernel_rfl) (by kernel_rfl) (by kernel_rfl) (fun _ _ _ h => h) ⟨by rfl, fun V hV => ⟨rfl, by obtain ⟨k0, k1, k2, k3, k4⟩ := hV; have a0 := cell_of k0 0; have a1 := cell_of k1 0; have a2 := cell_of k1 1; have a3 := cell_of k2 0; have a4 := cell_of k2 1; go_simp⟩⟩ ?_
          go_frame
          refine wpAnyC_skipN 9 (some 57) hC6 rfl (fun _ => trivial) rfl rfl (by kernel_rfl) (by kernel_rfl) (by kernel_rfl) (fun _ _ _ h => h) (by rfl) ?_
          go_frame
          refine wpAnyC_skipN 10 (some 58) hC6 rfl (fun _ => trivial) rfl rfl (by kernel_rfl) (by kernel_rfl) (by kernel_rfl) (fun _ _ _ h => h) (by rfl) ?_
          go_frame
          refine wpAnyC_skipN 11 (some 59) hC6 rfl (fun _ => trivial) rfl rfl (by kernel_rfl) (by kernel_rfl) (by kernel_rfl) (fun _ _ _ h => h) (by rfl) ?_
          go_frame
          refine wpAnyC_skipN 12 (some 60) hC6 rfl (fun _ => trivial) rfl rfl (by kernel_rfl) (by kernel_rfl) (by kernel_rfl) (fun _ _ _ h => h) (by rfl) ?_
          go_frame
          refine wpAnyC_skipN 13 (some 61) hC6 rfl (fun _ => trivial) rfl rfl (by kernel_rfl) (by kernel_rfl) (by kernel_rfl) (fun _ _ _ h => h) (by rfl) ?_
          go_frame
          refine wpAnyC_skipN 14 (some 62) hC6 rfl (fun _ => trivial) rfl rfl (by kernel_rfl) (by kernel_rfl) (by kernel_rfl) (fun _ _ _ h => h) (by rfl) ?_
          go_frame
          refine wpAnyC_skipN 15 (some 63) hC6 rfl (fun _ => trivial) rfl rfl (by kernel_rfl) (by kernel_rfl) (by kernel_rfl) (fun _ _ _ h => h) (by rfl) ?_
          go_frame
          refine wpAnyC_skipN 16 (some 64) hC6 rfl (fun _ => trivial) rfl rfl (by kernel_rfl) (by kernel_rfl) (by kernel_rfl) (fun _ _ _ h => h) (by rfl) ?_
          go_frame
          refine wpAnyC_takeN 17 (some 65) (.bool false) hC6 rfl rfl rfl (by kernel_rfl) (by kernel_rfl) (by kernel_rfl) (fun _ _ _ h => h) ⟨by rfl, fun V hV => ⟨rfl, by obtain ⟨k0, k1, k2, k3, k4⟩ := hV; have a0 := cell_of k0 0; have a1 := cell_of k1 0; have a2 := cell_of k1 1; have a3 := cell_of k2 0; have a4 := cell_of k2 1; go_simp⟩⟩ ?_
          go_frame
          refine wpAnyC_takeN 18 (some 66) (.bool false) hC6 rfl rfl rfl (by kernel_rfl) (by kernel_rfl) (by kernel_rfl) (fun _ _ _ h => h) ⟨by rfl, fun V hV => ⟨rfl, by obtain ⟨k0, k1, k2, k3, k4⟩ := hV; have a0 := cell_of k0 0; have a1 := cell_of k1 0; have a2 := cell_of k1 1; have a3 := cell_of k2 0; have a4 := cell_of k2 1; go_simp⟩⟩ ?_
          go_frame
          refine wpAnyC_skipN 19 (some 67) hC6 rfl (fun _ => trivial) rfl rfl (by kernel_rfl) (by kernel_rfl) (by kernel_rfl) (fun _ _ _ h => h) (by rfl) ?_
          go_frame
          refine wpAnyC_skipN 20 (some 68) hC6 rfl (fun _ => trivial) rfl rfl (by kernel_rfl) (by kernel_rfl) (by kernel_rfl) (fun _ _ _ h => h) (by rfl) ?_
          go_frame
          refine wpAnyC_skipN 21 (some 69) hC6 rfl (fun _ => trivial) rfl rfl (by kernel_rfl) (by kernel_rfl) (by kernel_rfl) (fun _ _ _ h => h) (by rfl) ?_
          go_frame
          refine wpAnyC_skipN 22 (some 70) hC6 rfl (fun _ => trivial) rfl rfl (by kernel_rfl) (by kernel_rfl) (by kernel_rfl) (fun _ _ _ h => h) (by rfl) ?_
          go_frame
          refine wpAnyC_takeN 23 (some 71) (.bool false) hC6 rfl rfl rfl (by kernel_rfl) (by kernel_rfl) (by kernel_rfl) (fun _ _ _ h => h) ⟨by rfl, fun V hV => ⟨rfl, by obtain ⟨k0, k1, k2, k3, k4⟩ := hV; have a0 := cell_of k0 0; have a1 := cell_of k1 0; have a2 := cell_of k1 1; have a3 := cell_of k2 0; have a4 := cell_of k2 1; go_simp⟩⟩ ?_
          go_frame
          refine wpAnyC_done (by kernel_rfl) ?_ _
          gi_wp2
          go_roundw
          case rel => exact ⟨i + 1, pre, hlt, by simp, HE, HN, hJ6, hsz6, hC6.1, hC6.2.1, hC6.2.2.1, own6⟩
          case measure => simp [intOf]; omega
      · have hrd : decide (r ≤ 0) = false := decide_eq_false hr0
        have HE : Hid (pre = nearTo C (cx, cy) ap C.length) := by
          show _ = _
          rw [hpre.out]
          refine (nearTo_end hasc hs ?_ C.length (by omega) (Nat.le_refl _)).symm
          have h1 : ¬ before (x, y) (cx + ap, cy + ap) := fun h => by have := (cmpC_lt _ _).2 h; rw [hr] at this; omega
          have h2 : ¬ (x, y) = (cx + ap, cy + ap) := fun h => by have := (cmpC_eq _ _).2 h; rw [hr] at this; omega
          rcases before_tri (x, y) (cx + ap, cy + ap) with h | h | h
          · exact absurd h h1
          · exact absurd h h2
          · exact h
        gi_wp2
        go_end0
        refine ⟨⟨_, rfl⟩, ?_⟩
        rw [← HE.out]; exact hJ5
    · have hd : decide ((i : Int) < (C.length : Int)) = false := decide_eq_false (by omega)
      have hii : ¬ (i : Int) < (C.length : Int) := by omega
      have HE : Hid (pre = nearTo C (cx, cy) ap C.length) := by
        show _ = _
        rw [hpre.out, show i = C.length by omega]
      gi_wp2_with (fail)
      have hC0 : (fun V : World => V.heap[Bp]? = some (.cells #[.slice a0 C.length cap0] 71 (0, 0))) wr.drew := hbp
      have hJ6 : J pre wr.drew := hJ _ _ _ hJs ⟨((Below.refl wr.heap.size wr).drew).mono hsz, fun k o hk _ => hk⟩
      refine wpIn_region_any (by kernel_rfl) (wpAnyC.any (C := (fun V : World => V.heap[Bp]? = some (.cells #[.slice a0 C.length cap0] 71 (0, 0)))) ?_)
      change wpAnyC _ _ _ _ _ _ _ _ _ _ (World.drew _)
      refine wpAnyC_takeN 0 (some 33) (.int .i64 (i : Int)) hC0 rfl rfl rfl (by kernel_rfl) (by kernel_rfl) (by kernel_rfl) (fun _ _ _ h => h) ⟨by rfl, fun V hV => ⟨rfl, by have a0 := cell_of hV 0; go_simp⟩⟩ ?_
      go_frame
      refine wpAnyC_takeN 1 (some 34) (.slice a0 C.length cap0) hC0 rfl rfl rfl (by kernel_rfl) (by kernel_rfl) (by kernel_rfl) (fun _ _ _ h => h) ⟨by rfl, fun V hV => ⟨rfl, by have a0 := cell_of hV 0; go_simp⟩⟩ ?_
      go_frame
      refine wpAnyC_takeN 2 (some 35) (.int .i64 (C.length : Int)) hC0 rfl rfl rfl (by kernel_rfl) (by kernel_rfl) (by kernel_rfl) (fun _ _ _ h => h) ⟨by rfl, fun V hV => ⟨by simp [Oper.about, resolve, Target.leads, go_sem], by have a0 := cell_of hV 0; go_simp⟩⟩ ?_
      go_frame
      refine wpAnyC_takeN 3 (some 36) (.bool false) hC0 rfl rfl rfl (by kernel_rfl) (by kernel_rfl) (by kernel_rfl) (fun _ _ _ h => h) ⟨by rfl, fun V hV => ⟨rfl, by have a0 := cell_of hV 0; go_simp⟩⟩ ?_
      go_frame
      refine wpAnyC_takeN 4 (some 37) (.bool false) hC0 rfl rfl rfl (by kernel_rfl) (by kernel_rfl) (by kernel_rfl) (fun _ _ _ h => h) ⟨by rfl, fun V hV => ⟨rfl, by have a0 := cell_of hV 0; go_simp⟩⟩ ?_
      go_frame
      refine wpAnyC_skipN 5 (some 38) hC0 rfl (fun _ => trivial) rfl rfl (by kernel_rfl) (by kernel_rfl) (by kernel_rfl) (fun _ _ _ h => h) (by rfl) ?_
      go_frame
      refine wpAnyC_skipN 6 (some 39) hC0 rfl (fun _ => trivial) rfl rfl (by kernel_rfl) (by kernel_rfl) (by kernel_rfl) (fun _ _ _ h => h) (by rfl) ?_
      go_frame
      refine wpAnyC_skipN 7 (some 40) hC0 rfl (fun _ => trivial) rfl rfl (by kernel_rfl) (by kernel_rfl) (by kernel_rfl) (fun _ _ _ h => h) (by rfl) ?_
      go_frame
      refine wpAnyC_skipN 8 (some 41) hC0 rfl (fun _ => trivial) rfl rfl (by kernel_rfl) (by kernel_rfl) (by kernel_rfl) (fun _ _ _ h => h) (by rfl) ?_
      go_frame
      refine wpAnyC_skipN 9 (some 42) hC0 rfl (fun _ => trivial) rfl rfl (by kernel_rfl) (by kernel_rfl) (by kernel_rfl) (fun _ _ _ h => h) (by rfl) ?_
      go_frame
      refine wpAnyC_skipN 10 (some 43) hC0 rfl (fun _ => trivial) rfl rfl (by kernel_rfl) (by kernel_rfl) (by kernel_rfl) (fun _ _ _ h => h) (by rfl) ?_
      go_frame
      refine wpAnyC_skipN 11 (some 44) hC0 rfl (fun _ => trivial) rfl rfl (by kernel_rfl) (by kernel_rfl) (by kernel_rfl) (fun _ _ _ h => h) (by rfl) ?_
      go_frame
      refine wpAnyC_takeN 12 (some 45) (.bool false) hC0 rfl rfl rfl (by kernel_rfl) (by kernel_rfl) (by kernel_rfl) (fun _ _ _ h => h) ⟨by rfl, fun V hV => ⟨rfl, by have a0 := cell_of hV 0; go_simp⟩⟩ ?_
      go_frame
      refine wpAnyC_done (by kernel_rfl) ?_ _
      gi_wp2
      go_end0
      refine ⟨⟨_, rfl⟩, ?_⟩
      rw [← HE.out]; exact hJ6

end Go.Proofs.YtiohpcnnpmnjhaaGreatDoor

namespace Go.Proofs.YtiohpcnnpmnjhaaGreatDoor
open Go.RowKit Go.Shelf
set_option linter.unusedVariables false

/-- Each number leads to one that is not greater. -/
def Leads (g : List Nat) : Prop := ∀ (i : Nat) (x : Nat), g[i]? = some x → x ≤ i
/-- The number at the end of the way from i. -/
def rootF (g : List Nat) : Nat → Nat → Nat
  | 0, i => i
  | f + 1, i => if g.getD i i = i then i else rootF g f (g.getD i i)
def root (g : List Nat) (i : Nat) : Nat := rootF g i i
theorem getD_le {g : List Nat} (h : Leads g) (i : Nat) : g.getD i i ≤ i := by
  cases hx : g[i]? with
  | none => simp [List.getD, hx]
  | some x => have := h i x hx; simp [List.getD, hx]; exact this
theorem rootF_more {g : List Nat} (h : Leads g) : ∀ (f i d : Nat), i ≤ f → rootF g (f + d) i = rootF g f i
  | 0, i, d, hi => by
    obtain rfl : i = 0 := by omega
    have := getD_le h 0
    cases d with
    | zero => rfl
    | succ d =>
      show rootF g (0 + (d + 1)) 0 = 0
      rw [Nat.zero_add]
      unfold rootF
      rw [if_pos (by omega)]
  | f + 1, i, d, hi => by
    rw [show f + 1 + d = (f + d) + 1 by omega, rootF, rootF]
    split
    · rfl
    · rename_i hne
      have := getD_le h i
      exact rootF_more h f _ d (by omega)
theorem root_eq {g : List Nat} (h : Leads g) (i : Nat) : root g i = if g.getD i i = i then i else root g (g.getD i i) := by
  have hle := getD_le h i
  unfold root
  cases i with
  | zero => rw [if_pos (by omega)]; rfl
  | succ i =>
    rw [rootF]
    split
    · rfl
    · rename_i hne
      have := rootF_more h (g.getD (i + 1) (i + 1)) (g.getD (i + 1) (i + 1)) (i - g.getD (i + 1) (i + 1)) (Nat.le_refl _)
      rw [← this]
      congr 1
      omega
theorem root_stop {g : List Nat} (h : Leads g) {i : Nat} (hi : g.getD i i = i) : root g i = i := by rw [root_eq h, if_pos hi]
theorem root_go {g : List Nat} (h : Leads g) (i : Nat) : root g i = root g (g.getD i i) := by
  by_cases hi : g.getD i i = i
  · rw [hi]
  · rw [root_eq h, if_neg hi]
theorem root_le {g : List Nat} (h : Leads g) : ∀ i, root g i ≤ i := by
  intro i
  induction i using Nat.strongRecOn with
  | _ i ih =>
    rw [root_eq h]
    split
    · exact Nat.le_refl _
    · have := getD_le h i
      have := ih (g.getD i i) (by omega)
      omega
theorem root_fix {g : List Nat} (h : Leads g) : ∀ i, g.getD (root g i) (root g i) = root g i := by
  intro i
  induction i using Nat.strongRecOn with
  | _ i ih =>
    rw [root_eq h]
    split
    · assumption
    · have := getD_le h i
      exact ih (g.getD i i) (by omega)
theorem root_root {g : List Nat} (h : Leads g) (i : Nat) : root g (root g i) = root g i := root_stop h (root_fix h i)
theorem getD_set {g : List Nat} {i x : Nat} (hi : i < g.length) (j : Nat) : (g.set i x).getD j j = if j = i then x else g.getD j j := by
  by_cases e : j = i
  · subst e; simp [List.getD, hi]
  · rw [if_neg e]
    simp [List.getD, show ¬ i = j from fun h => e h.symm]
theorem leads_set {g : List Nat} (h : Leads g) {i x : Nat} (hx : x ≤ i) : Leads (g.set i x) := fun j y hy => by
  rw [List.getElem?_set] at hy
  split at hy
  · rename_i e; subst e
    split at hy
    · cases hy; exact hx
    · cases hy
  · exact h j y hy
/-- A shorter way, with the same end. -/
theorem root_short {g : List Nat} (h : Leads g) {i x : Nat} (hi : i < g.length) (hx : x < i) (hr : root g x = root g i) : ∀ j, root (g.set i x) j = root g j := by
  have hl := leads_set h (Nat.le_of_lt hx)
  intro j
  induction j using Nat.strongRecOn with
  | _ j ih =>
    by_cases e : j = i
    · subst e
      rw [root_go hl, getD_set hi, if_pos rfl, ih x hx, hr]
    · rw [root_go hl, getD_set hi, if_neg e, root_go h j]
      by_cases hs : g.getD j j = j
      · rw [hs, root_stop h hs]
        exact root_stop hl (by rw [getD_set hi, if_neg e]; exact hs)
      · have := getD_le h j
        exact ih _ (by omega)
/-- Two groups become one. -/
theorem root_join {g : List Nat} (h : Leads g) {a b : Nat} (ha : a < g.length) (hb : b < g.length) (fa : root g a = a) (fb : root g b = b) (j : Nat) :
    Leads (g.set (max a b) (min a b)) ∧ root (g.set (max a b) (min a b)) j = if root g j = a ∨ root g j = b then min a b else root g j := by
  have hl : Leads (g.set (max a b) (min a b)) := leads_set h (by omega)
  refine ⟨hl, ?_⟩
  have hm : max a b < g.length := by omega
  have gfix : ∀ k, root g k = k → g.getD k k = k := fun k hk => by have := root_fix h k; rwa [hk] at this
  have hmin : (g.set (max a b) (min a b)).getD (min a b) (min a b) = min a b := by
    rw [getD_set hm]
    split
    · rfl
    · have : min a b = a ∨ min a b = b := by omega
      rcases this with e | e
      · rw [e]; exact gfix a fa
      · rw [e]; exact gfix b fb
  induction j using Nat.strongRecOn with
  | _ j ih =>
    by_cases e : j = max a b
    · have hj : root g j = a ∨ root g j = b := by
        have : max a b = a ∨ max a b = b := by omega
        rcases this with e2 | e2
        · left; rw [e, e2]; exact fa
        · right; rw [e, e2]; exact fb
      rw [if_pos hj, root_go hl, getD_set hm, if_pos e]
      exact root_stop hl hmin
    · rw [root_go hl, getD_set hm, if_neg e]
      by_cases hs : g.getD j j = j
      · rw [hs]
        have hrj := root_stop h hs
        rw [root_stop hl (by rw [getD_set hm, if_neg e]; exact hs), hrj]
        split
        · rename_i hab; omega
        · rfl
      · have := getD_le h j
        rw [ih _ (by omega), ← root_go h j]

theorem at_some {g : List Nat} {i : Nat} (h : i < g.length) : ∃ z, g[i]? = some z := ⟨g[i], by simp [h]⟩
/-- The groups in memory. -/
def natCells (g : List Nat) : List Value := g.map fun (x : Nat) => Value.int .i64 (x : Int)
def GroupsAt (W : World) (G : Nat) (g : List Nat) : Prop := W.heap[G]? = some (.cells (natCells g).toArray 3 (0, 0))
theorem GroupsAt.cell {W : World} {G : Nat} {g : List Nat} (h : GroupsAt W G g) {i x : Nat} (hi : g[i]? = some x) : W.cell? ⟨G, i, none⟩ = some (.int .i64 (x : Int)) := by
  unfold GroupsAt at h
  simp [World.cell?, h, natCells, hi]
theorem GroupsAt.set {W : World} {G : Nat} {g : List Nat} (h : GroupsAt W G g) (i x : Nat) : GroupsAt (W.setCell ⟨G, i, none⟩ (.int .i64 (x : Int))) G (g.set i x) := by
  have := blk_put (j := i) h (.int .i64 (x : Int))
  unfold GroupsAt
  rw [this]
  simp [natCells, List.map_set]

set_option maxRecDepth 100000 in
set_option maxHeartbeats 1600000 in
/-- The least number of a group is found, and the ways made shorter. -/
theorem leader_any (G cap : Nat) (g : List Nat) (i : Nat) (W : World) (hG : GroupsAt W G g) (hl : Leads g) (hi : i < g.length) (hn : g.length ≤ 1000000) :
    Calls Tryz.prog 82 #[.slice (some ⟨G, 0, none⟩) g.length cap, .int .i64 (i : Int)] W fun e W' => e = .returned (.int .i64 (root g i : Int)) ∧ (∃ g', GroupsAt W' G g' ∧ Leads g' ∧ g'.length = g.length ∧ ∀ j, root g' j = root g j) ∧ W.grownBy W' (some G) := by
  go_enter Tryz.func82, Tryz.ntmps82
  go_wp2
  go_loopw [1] (fun vi wr => ∃ (k : Nat) (g' : List Nat), vi = .int .i64 (k : Int) ∧ k < g.length ∧ GroupsAt wr G g' ∧ Leads g' ∧ g'.length = g.length ∧ (∀ j, root g' j = root g j) ∧ root g k = root g i ∧ W.grownBy wr (some G)) (fun vi _ => (intOf vi).toNat)
  case atStart => exact ⟨i, g, rfl, hi, hG, hl, rfl, fun _ => rfl, rfl, World.grownBy.refl _ _⟩
  case round =>
    obtain ⟨k, g', rfl, hk, hg, hl', hlen, hro, hri, hgr⟩ := hrel
    obtain ⟨a, ha⟩ : ∃ a, g'[k]? = some a := ⟨g'[k]'(by omega), by simp [show k < g'.length by omega]⟩
    have hak := hl' k a ha
    have c0 := hg.cell ha
    have hgd : g'.getD k k = a := by simp [List.getD, ha]
    have hki : (k : Int) < (g.length : Int) := by omega
    by_cases he : a = k
    · have hne : ((a : Int) != (k : Int)) = false := by simp [he]
      have hne2 : ((a : Int) == (k : Int)) = true := by simp [he]
      have HR : Hid (root g i = k) := by show _ = _; rw [← hri, ← hro k]; exact root_stop hl' (by rw [hgd, he])
      have hee : (a : Int) = (k : Int) := by omega
      go_wp2
      go_ret
      exact ⟨by rw [HR.out]; rfl, ⟨g', hg, hl', hlen, hro⟩, hgr⟩
    · have hne : ((a : Int) != (k : Int)) = true := by simp; omega
      have hne2 : ((a : Int) == (k : Int)) = false := by simp; omega
      have hee : ¬ (a : Int) = (k : Int) := by omega
      obtain ⟨b, hb⟩ : ∃ b, g'[a]? = some b := ⟨g'[a]'(by omega), by simp [show a < g'.length by omega]⟩
      have hba := hl' a b hb
      have c1 := hg.cell hb
      have hai : (a : Int) < (g.length : Int) := by omega
      have f0 := frz_of hg k
      have hgb : g'.getD a a = b := by simp [List.getD, hb]
      have HRB : Hid (root g' b = root g' k) := by show _ = _; rw [root_go hl' k, hgd, root_go hl' a, hgb]
      go_wp2
      refine ⟨⟨b, g'.set k b, rfl, by omega, hg.set k b, leads_set hl' (by omega), by simp [hlen], fun j => (root_short hl' (by omega) (by omega) HRB.out j).trans (hro j), by rw [← hro b, HRB.out, hro k]; exact hri, hgr.trans (grown_set _ G k _)⟩, by simp [intOf]; omega⟩

set_option maxRecDepth 100000 in
set_option maxHeartbeats 1600000 in
/-- Two groups become one. -/
theorem join_any (G cap : Nat) (g : List Nat) (i j : Nat) (W : World) (hG : GroupsAt W G g) (hl : Leads g) (hi : i < g.length) (hj : j < g.length) (hn : g.length ≤ 1000000) :
    Calls Tryz.prog 107 #[.slice (some ⟨G, 0, none⟩) g.length cap, .int .i64 (i : Int), .int .i64 (j : Int)] W fun e W' => e = .returned (.tuple #[]) ∧ (∃ g', GroupsAt W' G g' ∧ Leads g' ∧ g'.length = g.length ∧ ∀ k, root g' k = if root g k = root g i ∨ root g k = root g j then min (root g i) (root g j) else root g k) ∧ W.grownBy W' (some G) := by
  have h1 := leader_any G cap g i W hG hl hi hn
  have hai := root_le hl i
  have hbj := root_le hl j
  have HFA : Hid (root g (root g i) = root g i) := root_root hl i
  have HFB : Hid (root g (root g j) = root g j) := root_root hl j
  obtain ⟨a, ha⟩ : ∃ a, root g i = a := ⟨_, rfl⟩
  obtain ⟨b, hb⟩ : ∃ b, root g j = b := ⟨_, rfl⟩
  have HB : Hid (root g j = b) := hb
  rw [ha] at h1 hai HFA
  rw [hb] at hbj HFB
  simp only [ha, hb]
  clear ha hb
  obtain ⟨mx, hmx⟩ : ∃ mx, max a b = mx := ⟨_, rfl⟩
  obtain ⟨mn, hmn⟩ : ∃ mn, min a b = mn := ⟨_, rfl⟩
  have hmxi : max (a : Int) (b : Int) = (mx : Int) := by omega
  have hmni : min (a : Int) (b : Int) = (mn : Int) := by omega
  have hmxl : (mx : Int) < (g.length : Int) := by omega
  have HMX : Hid (max a b = mx) := hmx
  have HMN : Hid (min a b = mn) := hmn
  have hal : a < g.length := by omega
  have hbl : b < g.length := by omega
  clear hmx hmn
  go_enter Tryz.func107, Tryz.ntmps107
  go_wp2_with (go_at_call 82; first
    | (refine h2.mono ?_; rintro e w2 ⟨rfl, ⟨g2, hg2, hl2, hn2, hr2⟩, gr2⟩; obtain ⟨z, hz⟩ := at_some (g := g2) (i := mx) (by omega); have f0 := frz_of hg2 mx; have c0 := hg2.cell hz)
    | (refine h1.mono ?_; rintro e w1 ⟨rfl, ⟨g1, hg1, hl1, hn1, hr1⟩, gr1⟩; have h2 := leader_any G cap g1 j w1 hg1 hl1 (by omega) (by omega); rw [hn1, hr1 j, HB.out] at h2; clear h1))
  go_end0
  have hr12 : ∀ k, root g2 k = root g k := fun k => (hr2 k).trans (hr1 k)
  have hj := fun k => root_join hl2 (a := a) (b := b) (by omega) (by omega) (by rw [hr12]; exact HFA.out) (by rw [hr12]; exact HFB.out) k
  rw [HMX.out, HMN.out] at hj
  refine ⟨rfl, ⟨g2.set mx mn, hg2.set mx mn, (hj 0).1, by simp [hn2], fun k => ?_⟩, (gr1.trans gr2).trans (grown_set _ G mx _)⟩
  rw [HMN.out, (hj k).2, hr12]

end Go.Proofs.YtiohpcnnpmnjhaaGreatDoor

namespace Go.Proofs.YtiohpcnnpmnjhaaGreatDoor
open Go.RowKit Go.Shelf
set_option linter.unusedVariables false

theorem infoInt : (Tryz.prog.info? 3).map (fun i => (i.zero, i.size, i.bytes)) = some (some (.int .i64 0), 1, 8) := by kernel_rfl
theorem made_int (n : Nat) : madeCells (Value.int .i64 0).cells (n * 1) = (natCells (List.replicate n 0)).toArray := by
  apply Array.ext'
  apply List.ext_getElem?
  intro i
  simp [madeCells, natCells, Value.cells]
  by_cases h : i < n
  · simp [h, Nat.mod_one]
  · simp [h]
/-- The first k laid. -/
def sepL (n k : Nat) : List Nat := List.range k ++ List.replicate (n - k) 0
theorem sepL_len {n k : Nat} (h : k ≤ n) : (sepL n k).length = n := by simp [sepL]; omega
theorem sepL_set {n k : Nat} (h : k < n) : (sepL n k).set k k = sepL n (k + 1) := by
  unfold sepL
  obtain ⟨m, hm⟩ : ∃ m, n - k = m + 1 := ⟨n - k - 1, by omega⟩
  rw [hm, show n - (k + 1) = m by omega, List.replicate_succ, List.set_append_right _ _ (by simp), List.range_succ]
  simp

set_option maxRecDepth 100000 in
set_option maxHeartbeats 1600000 in
theorem separate_any (n : Nat) (w : World) (hn : n ≤ 1000000) :
    Calls Tryz.prog 105 #[.int .i64 (n : Int)] w fun e w' => e = .returned (.slice (some ⟨w.heap.size, 0, none⟩) n n) ∧ GroupsAt w' w.heap.size (List.range n) ∧ Below w.heap.size w w' := by
  obtain ⟨i0, hi0, hz0, hz1, hz2⟩ := info_parts infoInt
  have hmk : ∀ w : World, (Instr.makeSlice 130 (.int .i64 (n : Int)) (.int .i64 (n : Int))).run Tryz.prog w = .ok (.slice (some ⟨w.heap.size, 0, none⟩) n n) (w.alloc (.cells (natCells (List.replicate n 0)).toArray 3)) := fun w => by
    have := run_makeSlice (P := Tryz.prog) w 130 3 i0 (.int .i64 0) Tryz.underlying130 hi0 hz0 .i64 .i64 (n : Int) (n : Int) (by omega) (Int.le_refl _) (by rw [hz1]; simp; omega) (by rw [hz2]; omega) (by omega)
    rw [this, hz1, Int.toNat_natCast, made_int]
  go_enter Tryz.func105, Tryz.ntmps105
  go_wp2
  have g0 : GroupsAt (w.alloc (.cells (natCells (List.replicate n 0)).toArray 3)) w.heap.size (sepL n 0) := blk_new w _
  have b0 : Below w.heap.size w (w.alloc (.cells (natCells (List.replicate n 0)).toArray 3)) := (Below.refl _ _).alloc (Nat.le_refl _) _
  go_loopw [9] (fun vi wr => ∃ k : Nat, k ≤ n ∧ vi = .int .i64 (k : Int) ∧ GroupsAt wr w.heap.size (sepL n k) ∧ Below w.heap.size w wr) (fun vi _ => n - (intOf vi).toNat)
  case atStart => exact ⟨0, Nat.zero_le _, rfl, g0, b0⟩
  case round =>
    clear g0 b0
    obtain ⟨k, hk, rfl, hg, hb⟩ := hrel
    by_cases hlt : k < n
    · have hd : decide ((k : Int) < (n : Int)) = true := decide_eq_true (by omega)
      have hki : (k : Int) < (n : Int) := by omega
      obtain ⟨z, hz⟩ := at_some (g := sepL n k) (i := k) (by rw [sepL_len hk]; exact hlt)
      have c0 := hg.cell hz
      have f0 := frz_of hg k
      have hs := hg.set k k
      rw [sepL_set hlt] at hs
      go_wp2
      go_roundw
      case rel => exact ⟨k + 1, by omega, by go_num, hs, hb.setCell (p := ⟨w.heap.size, k, none⟩) (Nat.le_refl _) _⟩
      case measure => simp [intOf]; omega
    · have hd : decide ((k : Int) < (n : Int)) = false := decide_eq_false (by omega)
      obtain rfl : k = n := by omega
      have hs : sepL k k = List.range k := by simp [sepL]
      rw [hs] at hg
      go_wp2
      go_ret
      exact ⟨rfl, hg, hb⟩

end Go.Proofs.YtiohpcnnpmnjhaaGreatDoor

namespace Go.Proofs.YtiohpcnnpmnjhaaGreatDoor
open Go.RowKit Go.Shelf
set_option linter.unusedVariables false
attribute [local go_sem] Oper.semAt_some

/-- Two groups made one, as a map of each number to its leader. -/
def join1 (ρ : Nat → Nat) (p : Nat × Nat) (k : Nat) : Nat := if ρ k = ρ p.1 ∨ ρ k = ρ p.2 then min (ρ p.1) (ρ p.2) else ρ k
def joins (ρ : Nat → Nat) (ps : List (Nat × Nat)) : Nat → Nat := ps.foldl join1 ρ
theorem joins_append (ρ : Nat → Nat) (ps qs : List (Nat × Nat)) : joins ρ (ps ++ qs) = joins (joins ρ ps) qs := by simp [joins]
theorem joins_one (ρ : Nat → Nat) (p : Nat × Nat) : joins ρ [p] = join1 ρ p := rfl
/-- The pairs of near cells, of the first m. -/
def linksTo (A : List Cel) (sa : Nat) (B : List Cel) (sb : Nat) (ap : Int) (m : Nat) : List (Nat × Nat) := (List.range m).flatMap fun i => (nearTo B (A.getD i (0, 0)) ap B.length).map fun j => (sa + i, sb + j)
theorem linksTo_succ (A : List Cel) (sa : Nat) (B : List Cel) (sb : Nat) (ap : Int) (m : Nat) : linksTo A sa B sb ap (m + 1) = linksTo A sa B sb ap m ++ (nearTo B (A.getD m (0, 0)) ap B.length).map fun j => (sa + m, sb + j) := by simp [linksTo, List.range_succ]
/-- The groups, with their leaders. -/
def GrpAt (W : World) (G N : Nat) (ρ : Nat → Nat) : Prop := ∃ g, GroupsAt W G g ∧ Leads g ∧ g.length = N ∧ ∀ x, root g x = ρ x
theorem join_grp (G cap N i j : Nat) (ρ : Nat → Nat) (W : World) (h : GrpAt W G N ρ) (hi : i < N) (hj : j < N) (hn : N ≤ 1000000) :
    Calls Tryz.prog 107 #[.slice (some ⟨G, 0, none⟩) N cap, .int .i64 (i : Int), .int .i64 (j : Int)] W fun e W' => e = .returned (.tuple #[]) ∧ GrpAt W' G N (join1 ρ (i, j)) ∧ W.grownBy W' (some G) := by
  obtain ⟨g, hg, hl, rfl, hr⟩ := h
  refine (join_any G cap g i j W hg hl hi hj hn).mono ?_
  rintro e W' ⟨rfl, ⟨g', hg', hl', hn', hr'⟩, gr⟩
  refine ⟨rfl, ⟨g', hg', hl', hn', fun x => ?_⟩, gr⟩
  rw [hr' x, join1, hr, hr, hr]
theorem GrpAt.keep {W W' : World} {G N : Nat} {ρ : Nat → Nat} (h : GrpAt W G N ρ) (hb : W'.heap[G]? = W.heap[G]?) : GrpAt W' G N ρ := by
  obtain ⟨g, hg, h2⟩ := h
  exact ⟨g, hb.trans hg, h2⟩
theorem GrpAt.lt {W : World} {G N : Nat} {ρ : Nat → Nat} (h : GrpAt W G N ρ) : G < W.heap.size := by
  obtain ⟨g, hg, h2⟩ := h
  exact blk_lt hg

theorem rowKeep {W W' : World} {G N n : Nat} {ρ : Nat → Nat} {v : Value} {xs : List Value} (h : W.ownsRow 0 113 2 v n xs) (hg : W.grownBy W' (some G)) (hG : GrpAt W G N ρ) : W'.ownsRow 0 113 2 v n xs := by
  obtain ⟨g, hg0, _⟩ := hG
  refine ⟨h.1, h.2.imp id ?_⟩
  rintro ⟨b, cap, cur, h1, h2, h3, h4⟩
  exact ⟨b, cap, cur, h1, h2, (hg.block b (blk_lt h3) (fun e => by have e := Option.some.inj e; subst e; unfold GroupsAt at hg0; rw [hg0] at h3; cases h3)).trans h3, h4⟩
theorem grown_then {w W W' : World} {G n : Nat} (h : w.grownBy W (some G)) (hb : Below n W W') (hn : w.heap.size ≤ n) : w.grownBy W' (some G) := ⟨hb.os.trans h.os, hb.tape.trans h.tape, hb.output.trans h.output, Nat.le_trans h.size hb.size, fun k hk hne => (hb.block k (by omega)).trans (h.block k hk hne)⟩
theorem grown_over {w W W' : World} {G : Nat} (h : w.grownBy W (some G)) (k : W.grownBy W' (some G)) : w.grownBy W' (some G) := h.trans k

set_option maxRecDepth 100000 in
set_option maxHeartbeats 1600000 in
theorem linkNear_in (hsrch : SearchDoes) (hcmp : CompareDoes) (G cap N : Nat) (ρ : Nat → Nat) (A B : List Cel) (sa sb : Nat) (a b : Option Addr) (ca cb : Nat) (ap : Int) (w : World) (hG : GrpAt w G N ρ) (hn : N ≤ 1000000) (hA : sa + A.length ≤ N) (hB : sb + B.length ≤ N) (hbl : B.length ≤ 1000) (hasc : Asc B) (hap : 0 ≤ ap ∧ ap ≤ 10) (hAc : ∀ c ∈ A, (-4000000000000000000 ≤ c.1 ∧ c.1 ≤ 4000000000000000000) ∧ (-4000000000000000000 ≤ c.2 ∧ c.2 ≤ 4000000000000000000))
    (ownA : w.ownsRow 0 113 2 (.slice a A.length ca) A.length (flatC A)) (ownB : w.ownsRow 0 113 2 (.slice b B.length cb) B.length (flatC B)) :
    CallsIn Fence.wide 12 Tryz.prog 106 #[.slice (some ⟨G, 0, none⟩) N cap, .agg #[.slice a A.length ca, .int .i64 (sa : Int)], .agg #[.slice b B.length cb, .int .i64 (sb : Int)], .int .i64 ap] w fun e w' => e = .returned (.tuple #[]) ∧ GrpAt w' G N (joins ρ (linksTo A sa B sb ap A.length)) ∧ w.grownBy w' (some G) := by
  refine callsIn_of_wp_marks Tryz.func106 rfl trivial ?_ rfl
  simp only [Tryz.ntmps106, List.size_toArray, List.length_cons, List.length_nil, Nat.reduceAdd, Nat.reduceSub, Array.replicate_succ, Array.replicate_zero, List.push_toArray, List.append_toArray, List.nil_append, List.cons_append]
  gi_wp2
  obtain ⟨W3, hW3⟩ : ∃ W3, ((w.alloc (.cells #[.slice (some ⟨G, 0, none⟩) N cap] 130)).alloc (.cells #[.slice a A.length ca, .int .i64 (sa : Int)] 167)).alloc (.cells #[.slice b B.length cb, .int .i64 (sb : Int)] 167) = W3 := ⟨_, rfl⟩
  have b3 : Below w.heap.size w W3 := by rw [← hW3]; exact (((Below.refl _ w).alloc (Nat.le_refl _) _).alloc (by simp) _).alloc (by simp; omega) _
  have s3 : W3.heap.size = w.heap.size + 3 := by rw [← hW3]; simp
  have q0 : W3.heap[w.heap.size]? = some (.cells #[.slice (some ⟨G, 0, none⟩) N cap] 130 (0, 0)) := by rw [← hW3]; exact blk_old (blk_old (blk_new w _) _) _
  have q1 : W3.heap[w.heap.size + 1]? = some (.cells #[.slice a A.length ca, .int .i64 (sa : Int)] 167 (0, 0)) := by
    have := blk_old (blk_new (w.alloc (.cells #[.slice (some ⟨G, 0, none⟩) N cap] 130)) (.cells #[.slice a A.length ca, .int .i64 (sa : Int)] 167)) (.cells #[.slice b B.length cb, .int .i64 (sb : Int)] 167)
    rw [World.size_alloc] at this; rw [← hW3]; exact this
  have q2 : W3.heap[w.heap.size + 1 + 1]? = some (.cells #[.slice b B.length cb, .int .i64 (sb : Int)] 167 (0, 0)) := by
    have := blk_new ((w.alloc (.cells #[.slice (some ⟨G, 0, none⟩) N cap] 130)).alloc (.cells #[.slice a A.length ca, .int .i64 (sa : Int)] 167)) (.cells #[.slice b B.length cb, .int .i64 (sb : Int)] 167)
    simp only [World.size_alloc] at this; rw [← hW3]; exact this
  rw [hW3]
  clear hW3
  have hGl := hG.lt
  have hG3 : GrpAt W3 G N (joins ρ (linksTo A sa B sb ap 0)) := hG.keep (b3.block _ hGl)
  refine wpIn_loop (fun ac wr => ∃ (k : Nat) (Ds : List Nat) (u7 u8 u9 u10 u15 u16 u17 u18 u19 u20 u21 u22 u23 u24 u25 u26 u27 u28 u29 u30 u31 u32 u33 u34 u35 : Value), ac = { tmps := #[.slice (some ⟨G, 0, none⟩) N cap, .agg #[.slice a A.length ca, .int .i64 (sa : Int)], .agg #[.slice b B.length cb, .int .i64 (sb : Int)], .int .i64 ap, .pointer (some ⟨w.heap.size, 0, none⟩), .pointer (some ⟨w.heap.size + 1, 0, none⟩), .pointer (some ⟨w.heap.size + 1 + 1, 0, none⟩), u7, u8, u9, u10, .pointer (some ⟨w.heap.size + 1, 0, none⟩), .slice a A.length ca, .int .i64 (A.length : Int), .int .i64 (k : Int), u15, u16, u17, u18, u19, u20, u21, u22, u23, u24, u25, u26, u27, u28, u29, u30, u31, u32, u33, u34, u35], defers := Ds.map markD } ∧ k ≤ A.length ∧ GrpAt wr G N (joins ρ (linksTo A sa B sb ap k)) ∧ W3.grownBy wr (some G) ∧ MarksOk (w.heap.size + 3) Ds wr)
    (fun a _ => A.length - (intOf (a.tmps.getD 14 undef)).toNat) ⟨0, [], _, _, _, _, _, _, _, _, _, _, _, _, _, _, _, _, _, _, _, _, _, _, _, _, _, rfl, by omega, hG3, World.grownBy.refl _ _, marks_nil _ W3⟩ ?_
  rintro ac wr ⟨k, Ds, u7, u8, u9, u10, u15, u16, u17, u18, u19, u20, u21, u22, u23, u24, u25, u26, u27, u28, u29, u30, u31, u32, u33, u34, u35, rfl, hk, hGr, hgr, hmk⟩
  have t0 : wr.heap[w.heap.size]? = some (.cells #[.slice (some ⟨G, 0, none⟩) N cap] 130 (0, 0)) := (hgr.block _ (by omega) (by simp; omega)).trans q0
  have t1 : wr.heap[w.heap.size + 1]? = some (.cells #[.slice a A.length ca, .int .i64 (sa : Int)] 167 (0, 0)) := (hgr.block _ (by omega) (by simp; omega)).trans q1
  have t2 : wr.heap[w.heap.size + 1 + 1]? = some (.cells #[.slice b B.length cb, .int .i64 (sb : Int)] 167 (0, 0)) := (hgr.block _ (by omega) (by simp; omega)).trans q2
  have hsz := hgr.size
  by_cases hlt : k < A.length
  · have hd : decide ((k : Int) < (A.length : Int)) = true := decide_eq_true (by omega)
    have hki : (k : Int) < (A.length : Int) := by omega
    obtain ⟨⟨x, y⟩, hs⟩ : ∃ d, A[k]? = some d := ⟨A[k], by simp [hlt]⟩
    have ownA1 : wr.ownsRow 0 113 2 (.slice a A.length ca) A.length (flatC A) := rowKeep (rowBelow ownA b3) hgr hG3
    have ownB1 : wr.ownsRow 0 113 2 (.slice b B.length cb) B.length (flatC B) := rowKeep (rowBelow ownB b3) hgr hG3
    obtain ⟨Ga, rfl, hg, hget⟩ := (RowAt.of_owns ownA1).get hs
    obtain ⟨d0, d1⟩ := hget wr (Below.refl _ _)
    simp only at d0 d1
    have z2 := cell_of (blk_old (blk_old t2 (.cells #[.int .i64 (k : Int)] 3)) (.cells #[.int .i64 x, .int .i64 y] 113)) 0
    gi_wp2_with (refine ⟨trivial, ?_⟩; gi_at_call 125; refine (callsIn_wide.2 (near_fn b B.length cb x y ap _)).mono ?_; rintro e w1 ⟨rfl, rfl⟩)
    obtain ⟨W5, hW5⟩ : ∃ W5, (((((wr.alloc (.cells #[.int .i64 (k : Int)] 3)).alloc (.cells #[.int .i64 x, .int .i64 y] 113)).alloc (.cells #[.slice b B.length cb] 71)).alloc (.cells #[.int .i64 x, .int .i64 y] 113)).alloc (.cells #[.int .i64 ap] 3)) = W5 := ⟨_, rfl⟩
    have s5 : W5.heap.size = wr.heap.size + 5 := by rw [← hW5]; simp
    have b5 : Below wr.heap.size wr W5 := by rw [← hW5]; exact (((((Below.refl _ wr).alloc (Nat.le_refl _) _).alloc (by simp) _).alloc (by simp; omega) _).alloc (by simp; omega) _).alloc (by simp; omega) _
    have r0 : W5.heap[wr.heap.size]? = some (.cells #[.int .i64 (k : Int)] 3 (0, 0)) := by rw [← hW5]; exact blk_old (blk_old (blk_old (blk_old (blk_new wr _) _) _) _) _
    have r2 : W5.heap[wr.heap.size + 1 + 1]? = some (.cells #[.slice b B.length cb] 71 (0, 0)) := by
      have := blk_old (blk_old (blk_new ((wr.alloc (.cells #[.int .i64 (k : Int)] 3)).alloc (.cells #[.int .i64 x, .int .i64 y] 113)) (.cells #[.slice b B.length cb] 71)) (.cells #[.int .i64 x, .int .i64 y] 113)) (.cells #[.int .i64 ap] 3)
      simp only [World.size_alloc] at this; rw [← hW5]; exact this
    have r3 : W5.heap[wr.heap.size + 1 + 1 + 1]? = some (.cells #[.int .i64 x, .int .i64 y] 113 (0, 0)) := by
      have := blk_old (blk_new (((wr.alloc (.cells #[.int .i64 (k : Int)] 3)).alloc (.cells #[.int .i64 x, .int .i64 y] 113)).alloc (.cells #[.slice b B.length cb] 71)) (.cells #[.int .i64 x, .int .i64 y] 113)) (.cells #[.int .i64 ap] 3)
      simp only [World.size_alloc] at this; rw [← hW5]; exact this
    have r4 : W5.heap[wr.heap.size + 1 + 1 + 1 + 1]? = some (.cells #[.int .i64 ap] 3 (0, 0)) := by
      have := blk_new ((((wr.alloc (.cells #[.int .i64 (k : Int)] 3)).alloc (.cells #[.int .i64 x, .int .i64 y] 113)).alloc (.cells #[.slice b B.length cb] 71)).alloc (.cells #[.int .i64 x, .int .i64 y] 113)) (.cells #[.int .i64 ap] 3)
      simp only [World.size_alloc] at this; rw [← hW5]; exact this
    rw [hW5]
    clear hW5 z2
    have hAk := hAc (x, y) (List.mem_of_getElem? hs)
    have own5 := rowBelow ownB1 b5
    have hGl5 : G < wr.heap.size := by omega
    obtain ⟨ρk, hρk⟩ : ∃ ρk, joins ρ (linksTo A sa B sb ap k) = ρk := ⟨_, rfl⟩
    have HK : Hid (joins ρ (linksTo A sa B sb ap k) = ρk) := hρk
    rw [hρk] at hGr
    clear hρk
    have hG5 : GrpAt W5 G N ρk := hGr.keep (b5.block _ hGl5)
    have p0 := (b5.block _ (by omega)).trans t0
    have p1 := (b5.block _ (by omega)).trans t1
    have p2 := (b5.block _ (by omega)).trans t2
    have hDl : ∀ D ∈ Ds, D < wr.heap.size := fun D hD => blk_lt (hmk.2.1 D hD)
    refine wpIn_rangeN rfl (by omega) (gf := 142) (lb := #[.pointer (some ⟨wr.heap.size + 1 + 1 + 1, 0, none⟩), .pointer (some ⟨wr.heap.size + 1 + 1 + 1 + 1, 0, none⟩), .pointer (some ⟨wr.heap.size + 1 + 1, 0, none⟩)]) rfl trivial (enters_of Tryz.func142 (by kernel_rfl) rfl) (near_seq hsrch hcmp 11 (by omega) B b cb (wr.heap.size + 1 + 1 + 1) (wr.heap.size + 1 + 1 + 1 + 1) (wr.heap.size + 1 + 1) x y ap W5 hbl hasc hap hAk.1 hAk.2 own5 r3 r4 r2) KpT.trans ?kb (fun _ => rfl)
      (fun pre W => GrpAt W G N (joins ρk (pre.map fun j => (sa + k, sb + j))) ∧ W5.grownBy W (some G)) ?hI ?hEl ?h0
      (fun j => { tmps := #[.slice (some ⟨G, 0, none⟩) N cap, .agg #[.slice (some ⟨Ga, 0, none⟩) A.length ca, .int .i64 (sa : Int)], .agg #[.slice b B.length cb, .int .i64 (sb : Int)], .int .i64 ap, .pointer (some ⟨w.heap.size, 0, none⟩), .pointer (some ⟨w.heap.size + 1, 0, none⟩), .pointer (some ⟨w.heap.size + 1 + 1, 0, none⟩), u7, .pointer (some ⟨wr.heap.size, 0, none⟩), .pointer (some ⟨wr.heap.size + 1, 0, none⟩), .int .i64 (j : Int), .pointer (some ⟨w.heap.size + 1, 0, none⟩), .slice (some ⟨Ga, 0, none⟩) A.length ca, .int .i64 (A.length : Int), .int .i64 (k : Int), .bool true, .int .i64 (k : Int), .pointer (some ⟨Ga, k * 2, none⟩), .agg #[.int .i64 x, .int .i64 y], .pointer (some ⟨w.heap.size + 1 + 1, 0, none⟩), .slice b B.length cb, .agg #[.int .i64 x, .int .i64 y], .int .i64 ap, .func (.func 142) #[] #[.pointer (some ⟨wr.heap.size + 1 + 1 + 1, 0, none⟩), .pointer (some ⟨wr.heap.size + 1 + 1 + 1 + 1, 0, none⟩), .pointer (some ⟨wr.heap.size + 1 + 1, 0, none⟩)], .int .i64 (j : Int), u25, u26, u27, u28, u29, u30, u31, u32, u33, u34, u35], defers := [] }) ?assign ?body ?done
    case kb =>
      intro W l r o hl hr
      refine ⟨by simp, fun k' o' hk' ho' => (World.putObj_heap_other (fun e => ?_)).trans hk'⟩
      subst e
      rw [hr] at hk'
      cases hk'
      cases ho'
    case hI =>
      rintro pre A B ⟨h1, h2⟩ hab
      exact ⟨h1.keep (hab.be.block _ (by omega)), grown_then h2 hab.be (Nat.le_refl _)⟩
    case hEl => intro pre x A B h _; exact h
    case h0 => exact ⟨hG5, World.grownBy.refl _ _⟩
    case assign =>
      intro l x W K hK
      gi_wp2
      exact hK
    case body =>
      rintro l pre j W hl ⟨h1, h2⟩ hj
      have hjoin := join_grp G cap N (sa + k) (sb + j) _ W h1 (by omega) (by omega) (by omega)
      rw [show ((sa + k : Nat) : Int) = (sa : Int) + (k : Int) by omega, show ((sb + j : Nat) : Int) = (sb : Int) + (j : Int) by omega] at hjoin
      have m0 := cell_of ((h2.block _ (by omega) (by simp; omega)).trans p0) 0
      have m1 := cell_of ((h2.block _ (by omega) (by simp; omega)).trans p1) 1
      have m2 := cell_of ((h2.block _ (by omega) (by simp; omega)).trans p2) 1
      have m3 := cell_of ((h2.block _ (by omega) (by simp; omega)).trans r0) 0
      have HG1 := h1
      clear h1
      gi_wp2_with (refine ⟨trivial, ?_⟩; gi_at_call 107; refine (CallsIn.inRound l (callsIn_wide.2 hjoin)).mono ?_; rintro e w6 ⟨rfl, hG6, gr6⟩)
      obtain ⟨g1, hg1, _⟩ := HG1
      unfold GroupsAt at hg1
      refine ⟨?_, ?_, ?_, h2.trans gr6⟩
      · exact (show KeepsOthers W w6 from ⟨gr6.size, fun k' o hk' ho => (gr6.block k' (blk_lt hk') (fun e => by have e := Option.some.inj e; subst e; rw [hg1] at hk'; cases hk'; cases ho)).trans hk'⟩).from _
      · exact ⟨gr6.size, fun k' o hk' ho => (gr6.block k' (blk_lt hk') (fun e => by have e := Option.some.inj e; subst e; rw [hg1] at hk'; cases hk'; rcases ho with h | h <;> cases h)).trans hk'⟩
      · rw [List.map_append, joins_append]
        exact hG6
    case done =>
      rintro D xs W hD hxs ⟨h1, h2⟩ hK
      rw [hxs] at h1
      have HN : Hid (joins ρ (linksTo A sa B sb ap (k + 1)) = joins ρk ((nearTo B (x, y) ap B.length).map fun j => (sa + k, sb + j))) := by
        show _ = _
        rw [linksTo_succ, joins_append, HK.out, show A.getD k (0, 0) = (x, y) by simp [List.getD, hs]]
      rw [← HN.out] at h1
      obtain ⟨g1, hg1, _⟩ := hG5
      unfold GroupsAt at hg1
      have hmk' : MarksOk (w.heap.size + 3) (D :: Ds) W := by
        refine ⟨List.nodup_cons.2 ⟨fun h => by have := hDl D h; omega, hmk.1⟩, fun D' h => ?_, fun D' h => ?_⟩
        · rcases List.mem_cons.1 h with rfl | h
          · exact hK
          · have hD' := (b5.block _ (hDl D' h)).trans (hmk.2.1 D' h)
            exact (h2.block _ (blk_lt hD') (fun e => by have e := Option.some.inj e; subst e; rw [hg1] at hD'; cases hD')).trans hD'
        · rcases List.mem_cons.1 h with rfl | h
          · omega
          · exact hmk.2.2 D' h
      gi_wp2
      refine ⟨⟨k + 1, D :: Ds, ⟨by omega, rfl⟩, by omega, h1, grown_over (grown_then hgr b5 hsz) h2, hmk'⟩, ?_⟩
      simp [intOf]
      omega
  · have hkp' : k = A.length := by omega
    subst hkp'
    gi_wp2
    refine leaves_marks Ds wr hmk fun W' hW' => ?_
    exact ⟨.tuple #[], results_none rfl _ _ _, rfl, hGr.keep (hW'.be.block _ (by omega)), grown_then (grown_over (grown_any b3) hgr) hW'.be (by omega)⟩

end Go.Proofs.YtiohpcnnpmnjhaaGreatDoor

namespace Go.Proofs.YtiohpcnnpmnjhaaGreatDoor
open Go.RowKit Go.Shelf
set_option linter.unusedVariables false
attribute [local go_sem] Oper.semAt_some

/-- The number of the first cell of a generation. -/
def startOf (Gs : List (List Cel)) (i : Nat) : Nat := ((Gs.take i).map List.length).sum
theorem startOf_succ {Gs : List (List Cel)} {i : Nat} {C : List Cel} (h : Gs[i]? = some C) : startOf Gs (i + 1) = startOf Gs i + C.length := by
  unfold startOf
  rw [List.take_add_one, h]
  simp
theorem startOf_mono (Gs : List (List Cel)) {i j : Nat} (h : i ≤ j) : startOf Gs i ≤ startOf Gs j := by
  induction j with
  | zero => obtain rfl : i = 0 := by omega
            exact Nat.le_refl _
  | succ j ih =>
    by_cases e : i = j + 1
    · rw [e]; exact Nat.le_refl _
    · refine Nat.le_trans (ih (by omega)) ?_
      unfold startOf
      rw [List.take_add_one]
      simp
/-- The layers in memory. -/
def layFlat (vs : List Value) (Gs : List (List Cel)) (m : Nat) : List Value := (List.range m).flatMap fun i => [vs.getD i undef, .int .i64 (startOf Gs i : Int)]
theorem layFlat_succ (vs : List Value) (Gs : List (List Cel)) (m : Nat) : layFlat vs Gs (m + 1) = layFlat vs Gs m ++ [vs.getD m undef, .int .i64 (startOf Gs m : Int)] := by simp [layFlat, List.range_succ]
theorem layFlat_at (vs : List Value) (Gs : List (List Cel)) : ∀ (m i : Nat), i < m → (layFlat vs Gs m)[i * 2]? = some (vs.getD i undef) ∧ (layFlat vs Gs m)[i * 2 + 1]? = some (.int .i64 (startOf Gs i : Int))
  | 0, i, h => by omega
  | m + 1, i, h => by
    have hl : (layFlat vs Gs m).length = m * 2 := by
      clear h
      induction m with
      | zero => rfl
      | succ m ih => rw [layFlat_succ, List.length_append, ih]; simp; omega
    rw [layFlat_succ]
    by_cases e : i < m
    · have := layFlat_at vs Gs m i e
      rw [List.getElem?_append_left (by omega), List.getElem?_append_left (by omega)]
      exact this
    · obtain rfl : i = m := by omega
      rw [List.getElem?_append_right (by omega), List.getElem?_append_right (by omega), hl, show i * 2 - i * 2 = 0 by omega, show i * 2 + 1 - i * 2 = 1 by omega]
      exact ⟨rfl, rfl⟩
theorem infoLayer : (Tryz.prog.info? 167).map (fun i => (i.zero, i.size, i.bytes)) = some (some (.agg #[.slice none 0 0, .int .i64 0]), 2, 32) := by kernel_rfl
/-- The generations in memory. -/
structure GensAt (w : World) (gg s : Nat) (vs : List Value) (Gs : List (List Cel)) : Prop where
  lt : gg < w.heap.size
  len : vs.length = Gs.length
  get : ∀ (i : Nat) v, vs[i]? = some v → w.cell? ⟨gg, s + i, none⟩ = some v
  row : ∀ (i : Nat) v C, vs[i]? = some v → Gs[i]? = some C → w.ownsRow 0 113 2 v C.length (flatC C)

set_option maxRecDepth 100000 in
set_option maxHeartbeats 1600000 in
theorem layers_any (gg s c : Nat) (vs : List Value) (Gs : List (List Cel)) (w : World) (hG : GensAt w gg s vs Gs) (hn : Gs.length ≤ 1000) (ht : startOf Gs Gs.length ≤ 1000000) :
    Calls Tryz.prog 104 #[.slice (some ⟨gg, s, none⟩) Gs.length c] w fun e w' => (∃ lv, e = .returned (.tuple #[lv, .int .i64 (startOf Gs Gs.length : Int)]) ∧ w'.ownsRow w.heap.size 167 2 lv Gs.length (layFlat vs Gs Gs.length)) ∧ Below w.heap.size w w' := by
  obtain ⟨i0, hi, hz0, hz1, hz2⟩ := info_parts infoLayer
  go_enter Tryz.func104, Tryz.ntmps104
  go_wp2
  go_loopw [4, 5, 10] (fun vl vc vi wr => ∃ k : Nat, k ≤ Gs.length ∧ vi = .int .i64 (k : Int) ∧ vc = .int .i64 (startOf Gs k : Int) ∧ wr.ownsRow w.heap.size 167 2 vl k (layFlat vs Gs k) ∧ Below w.heap.size w wr) (fun _ _ vi _ => Gs.length - (intOf vi).toNat)
  case atStart => exact ⟨0, Nat.zero_le _, rfl, rfl, World.ownsRow_nil _ _ _ _, Below.refl _ _⟩
  case round =>
    obtain ⟨k, hk, rfl, rfl, own, hb⟩ := hrel
    by_cases hlt : k < Gs.length
    · have hki : (k : Int) < (Gs.length : Int) := by omega
      obtain ⟨C, hC⟩ : ∃ C, Gs[k]? = some C := ⟨Gs[k], by simp [hlt]⟩
      obtain ⟨v, hv⟩ : ∃ v, vs[k]? = some v := ⟨vs[k]'(by rw [hG.len]; exact hlt), by simp [show k < vs.length by rw [hG.len]; exact hlt]⟩
      have hrow := hG.row k v C hv hC
      obtain ⟨a0, cap0, rfl⟩ := row_slice hrow
      have c0 : wr.cell? ⟨gg, s + k, none⟩ = some (.slice a0 C.length cap0) := (World.cell?_of_block (hb.block _ hG.lt)).trans (hG.get _ _ hv)
      have hS := startOf_succ hC
      have hM := startOf_mono Gs (i := k + 1) (j := Gs.length) (by omega)
      have HS : Hid (startOf Gs (k + 1) = startOf Gs k + C.length) := hS
      have HF : Hid (layFlat vs Gs (k + 1) = layFlat vs Gs k ++ [.slice a0 C.length cap0, .int .i64 (startOf Gs k : Int)]) := by
        show _ = _
        rw [layFlat_succ, show vs.getD k undef = .slice a0 C.length cap0 by simp [List.getD, hv]]
      obtain ⟨st, hst⟩ : ∃ st, startOf Gs k = st := ⟨_, rfl⟩
      have hsz := hb.size
      simp only [hst] at hS HS HF ⊢
      have hbd : st + C.length ≤ 1000000 := by omega
      clear hS hM hst
      go_wp2_with (at_builtin; refine wpList_append_own _ rfl _ _ 162 rfl w.heap.size 167 i0 (.agg #[.slice none 0 0, .int .i64 0]) 2 32 Tryz.underlying162 hi hz0 hz1 hz2 rfl (by decide) _ _ _ rfl (own.alloc _) ⟨wr.heap.size, 0, none⟩ 1 1 [.slice a0 C.length cap0, .int .i64 (st : Int)] rfl rfl (cell_two_new _ _ _ _) (by simp [Value.oneCell']) (by unfold maxLen; omega) (by omega) (by simp; omega) ?_; intro v' w1 own1 hgr _)
      go_roundw
      case rel =>
        refine ⟨k + 1, by omega, by go_num, by rw [HS.out]; go_num, ?_, (hb.alloc (by omega) _).grown hgr (by simp; omega) (fun k hk => (own.lt k hk).1)⟩
        rw [HF.out]
        exact own1
      case measure => simp [intOf]; omega
    · have hk' : k = Gs.length := by omega
      subst hk'
      go_wp2
      go_ret2
      exact ⟨⟨_, rfl, own⟩, hb⟩

end Go.Proofs.YtiohpcnnpmnjhaaGreatDoor

namespace Go.Proofs.YtiohpcnnpmnjhaaGreatDoor
open Go.RowKit Go.Shelf
set_option linter.unusedVariables false
attribute [local go_sem] Oper.semAt_some

theorem lay_get {W : World} {B n : Nat} {lv : Value} {vs : List Value} {Gs : List (List Cel)} (own : W.ownsRow B 167 2 lv n (layFlat vs Gs n)) (hn : 1 ≤ n) :
    ∃ L cp, lv = .slice (some ⟨L, 0, none⟩) n cp ∧ B ≤ L ∧ L < W.heap.size ∧ (∃ cur, W.heap[L]? = some (.cells cur 167 (0, 0))) ∧ ∀ W' : World, W'.heap[L]? = W.heap[L]? → ∀ i, i < n → W'.cell? ⟨L, i * 2, none⟩ = some (vs.getD i undef) ∧ W'.cell? ⟨L, i * 2 + 1, none⟩ = some (.int .i64 (startOf Gs i : Int)) := by
  obtain ⟨hl, h⟩ := own
  rcases h with ⟨_, h0⟩ | ⟨g, cap, cur, rfl, hb, hblk, hc, hm, hsz, hpre⟩
  · omega
  · refine ⟨g, cap, rfl, hb, blk_lt hblk, ⟨cur, hblk⟩, fun W' hW i hi => ?_⟩
    obtain ⟨h1, h2⟩ := layFlat_at vs Gs n i hi
    rw [← hpre] at h1 h2
    have get : ∀ j, j < n * 2 → (cur.toList.take (n * 2))[j]? = cur[j]? := fun j hj => by rw [List.getElem?_take_of_lt hj]; simp
    rw [get _ (by omega)] at h1 h2
    have hblk' := hW.trans hblk
    exact ⟨by simp [World.cell?, hblk', h1], by simp [World.cell?, hblk', h2]⟩
theorem root_range (n x : Nat) : root (List.range n) x = x := by
  have hl : Leads (List.range n) := fun i y h => by
    obtain ⟨_, rfl⟩ := List.getElem?_eq_some_iff.1 h
    simp
  refine root_stop hl ?_
  by_cases h : x < n
  · simp [List.getD, h]
  · simp [List.getD, List.getElem?_eq_none (l := List.range n) (i := x) (by simpa using h)]
theorem GrpAt.start {W : World} {G n : Nat} (h : GroupsAt W G (List.range n)) : GrpAt W G n id := ⟨_, h, fun i y h => by
  obtain ⟨_, rfl⟩ := List.getElem?_eq_some_iff.1 h
  simp, by simp, fun x => root_range n x⟩
/-- The pairs that are linked in one layer, and between it and the one ahead. -/
def linkAt (Gs : List (List Cel)) (k : Nat) : List (Nat × Nat) := linksTo (Gs.getD k []) (startOf Gs k) (Gs.getD k []) (startOf Gs k) 2 (Gs.getD k []).length ++ if 0 < k then linksTo (Gs.getD (k - 1) []) (startOf Gs (k - 1)) (Gs.getD k []) (startOf Gs k) 1 (Gs.getD (k - 1) []).length else []
def linkTo (Gs : List (List Cel)) (m : Nat) : List (Nat × Nat) := (List.range m).flatMap (linkAt Gs)
theorem linkTo_succ (Gs : List (List Cel)) (m : Nat) : linkTo Gs (m + 1) = linkTo Gs m ++ linkAt Gs m := by simp [linkTo, List.range_succ]
/-- The first and the last layer, one by one. -/
def sameTo (st m : Nat) : List (Nat × Nat) := (List.range m).map fun i => (i, st + i)
theorem sameTo_succ (st m : Nat) : sameTo st (m + 1) = sameTo st m ++ [(m, st + m)] := by simp [sameTo, List.range_succ]
/-- All pairs. -/
def allLinks (Gs : List (List Cel)) : List (Nat × Nat) := linkTo Gs Gs.length ++ sameTo (startOf Gs (Gs.length - 1)) (Gs.getD (Gs.length - 1) []).length
/-- What the generations keep to. -/
def Linkable (Gs : List (List Cel)) : Prop := ∀ C ∈ Gs, C.length ≤ 1000 ∧ Asc C ∧ ∀ c ∈ C, (-4000000000000000000 ≤ c.1 ∧ c.1 ≤ 4000000000000000000) ∧ (-4000000000000000000 ≤ c.2 ∧ c.2 ≤ 4000000000000000000)

set_option maxRecDepth 100000 in
set_option maxHeartbeats 3200000 in
theorem linkCells_any (hsrch : SearchDoes) (hcmp : CompareDoes) (gg s c : Nat) (vs : List Value) (Gs : List (List Cel)) (w : World) (hG : GensAt w gg s vs Gs) (hn1 : 1 ≤ Gs.length) (hn : Gs.length ≤ 1000) (ht : startOf Gs Gs.length ≤ 1000000) (hL : Linkable Gs) :
    CallsIn Fence.wide 13 Tryz.prog 81 #[.slice (some ⟨gg, s, none⟩) Gs.length c] w fun e w' => ∃ G, e = .returned (.slice (some ⟨G, 0, none⟩) (startOf Gs Gs.length) (startOf Gs Gs.length)) ∧ GrpAt w' G (startOf Gs Gs.length) (joins id (allLinks Gs)) ∧ Below w.heap.size w w' ∧ w.heap.size ≤ G := by
  have hlay := layers_any gg s c vs Gs w hG hn ht
  obtain ⟨n, hnn⟩ : ∃ n, Gs.length = n := ⟨_, rfl⟩
  obtain ⟨N, hNN⟩ : ∃ N, startOf Gs n = N := ⟨_, rfl⟩
  rw [hnn] at hn1 hn ht hlay
  rw [hNN] at ht hlay
  rw [hnn, hNN]
  refine callsIn_of_wp Tryz.func81 rfl trivial ?_ rfl
  simp only [Tryz.ntmps81, List.size_toArray, List.length_cons, List.length_nil, Nat.reduceAdd, Nat.reduceSub, Array.replicate_succ, Array.replicate_zero, List.push_toArray, List.append_toArray, List.nil_append, List.cons_append]
  gi_wp2_with (refine ⟨trivial, ?_⟩; first
    | (gi_at_call 104; refine (callsIn_wide.2 hlay).mono ?_; rintro e w1 ⟨⟨lv, rfl, own1⟩, b1⟩)
    | (gi_at_call 105; refine (callsIn_wide.2 (separate_any N w1 ht)).mono ?_; rintro e w2 ⟨rfl, hg2, b2⟩; obtain ⟨L, cp, rfl, hBL, hLl, ⟨cur, hLc⟩, hLget⟩ := lay_get own1 hn1))
  have hG2 : GrpAt w2 w1.heap.size N (joins id (linkTo Gs 0)) := GrpAt.start hg2
  have b12 : Below w.heap.size w w2 := b1.trans (b2.mono b1.size)
  have hLb2 : w2.heap[L]? = w1.heap[L]? := b2.block _ hLl
  have hLG : L < w1.heap.size := hLl
  have hGe : w.heap.size ≤ w1.heap.size := b1.size
  have hG1s := hG2.lt
  have HLget : Hid (∀ W' : World, W'.heap[L]? = w1.heap[L]? → ∀ i, i < n → W'.cell? ⟨L, i * 2, none⟩ = some (vs.getD i undef) ∧ W'.cell? ⟨L, i * 2 + 1, none⟩ = some (.int .i64 (startOf Gs i : Int))) := hLget
  clear hLget
  generalize w1.heap.size = G at *
  gi_loopw [19] (fun vi wr => ∃ k : Nat, k ≤ n ∧ vi = .int .i64 (k : Int) ∧ GrpAt wr G N (joins id (linkTo Gs k)) ∧ w2.grownBy wr (some G)) (fun vi _ => n - (intOf vi).toNat)
  case atStart => exact ⟨0, Nat.zero_le _, rfl, hG2, World.grownBy.refl _ _⟩
  case round =>
    obtain ⟨k, hk, rfl, hGr, hgr⟩ := hrel
    have hsz := hgr.size
    have hLr : wr.heap[L]? = w1.heap[L]? := (hgr.block _ (by omega) (by simp; omega)).trans hLb2
    by_cases hlt : k < n
    · have hki : (k : Int) < (n : Int) := by omega
      obtain ⟨C, hC⟩ : ∃ C, Gs[k]? = some C := ⟨Gs[k]'(by omega), by simp [show k < Gs.length by omega]⟩
      obtain ⟨v, hv⟩ : ∃ v, vs[k]? = some v := ⟨vs[k]'(by rw [hG.len]; omega), by simp [show k < vs.length by rw [hG.len]; omega]⟩
      have hrow : wr.ownsRow 0 113 2 v C.length (flatC C) := rowKeep (rowBelow (hG.row k v C hv hC) b12) hgr hG2
      obtain ⟨a0, cap0, rfl⟩ := row_slice hrow
      obtain ⟨c0, c1⟩ := HLget.out wr hLr k hlt
      rw [show vs.getD k undef = .slice a0 C.length cap0 by simp [List.getD, hv]] at c0
      have hS := startOf_succ hC
      have hM := startOf_mono Gs (i := k + 1) (j := n) (by omega)
      have hCL := hL C (List.mem_of_getElem? hC)
      have hgC : Gs.getD k [] = C := by simp [List.getD, hC]
      have HL : Hid (joins id (linkTo Gs (k + 1)) = joins (joins (joins id (linkTo Gs k)) (linksTo C (startOf Gs k) C (startOf Gs k) 2 C.length)) (if 0 < k then linksTo (Gs.getD (k - 1) []) (startOf Gs (k - 1)) C (startOf Gs k) 1 (Gs.getD (k - 1) []).length else [])) := by
        show _ = _
        rw [linkTo_succ, linkAt, joins_append, joins_append, hgC]
      obtain ⟨st, hst⟩ : ∃ st, startOf Gs k = st := ⟨_, rfl⟩
      obtain ⟨ρk, hρk⟩ : ∃ ρk, joins id (linkTo Gs k) = ρk := ⟨_, rfl⟩
      rw [hst] at c1 hS HL
      rw [hρk] at hGr HL
      have hbd : st + C.length ≤ N := by omega
      clear hst hρk
      have b5 : Below wr.heap.size wr (wr.alloc (.cells #[.slice a0 C.length cap0, .int .i64 (st : Int)] 167)) := (Below.refl _ _).alloc (Nat.le_refl _) _
      have hG5 := hGr.keep (b5.block _ hGr.lt)
      have own5 := rowBelow hrow b5
      have q5 := blk_new wr (.cells #[.slice a0 C.length cap0, .int .i64 (st : Int)] 167)
      have hln := linkNear_in hsrch hcmp G N N ρk C C st st a0 a0 cap0 cap0 2 _ hG5 ht hbd hbd hCL.1 hCL.2.1 (by omega) hCL.2.2 own5 own5
      have hGw := hGr.lt
      have g05 : w2.grownBy (wr.alloc (.cells #[.slice a0 C.length cap0, .int .i64 (st : Int)] 167)) (some G) := grown_then hgr b5 hsz
      by_cases hk0 : 0 < k
      · have hkd : decide ((k : Int) > 0) = true := decide_eq_true (by omega)
        have hkd2 : (k : Int) > 0 := by omega
        rw [if_pos hk0] at HL
        obtain ⟨j, rfl⟩ : ∃ j, k = j + 1 := ⟨k - 1, by omega⟩
        rw [show ((j + 1 : Nat) : Int) = (j : Int) + 1 by omega] at *
        rw [show j + 1 - 1 = j by omega] at HL
        obtain ⟨B, hB⟩ : ∃ B, Gs[j]? = some B := ⟨Gs[j]'(by omega), by simp [show j < Gs.length by omega]⟩
        obtain ⟨pv, hpv⟩ : ∃ v, vs[j]? = some v := ⟨vs[j]'(by rw [hG.len]; omega), by simp [show j < vs.length by rw [hG.len]; omega]⟩
        have hrowB : wr.ownsRow 0 113 2 pv B.length (flatC B) := rowKeep (rowBelow (hG.row j pv B hpv hB) b12) hgr hG2
        obtain ⟨pa, pc, rfl⟩ := row_slice hrowB
        obtain ⟨e0, e1⟩ := HLget.out wr hLr j (by omega)
        rw [show vs.getD j undef = .slice pa B.length pc by simp [List.getD, hpv]] at e0
        have hSB := startOf_succ hB
        have hMB := startOf_mono Gs (i := j + 1) (j := n) (by omega)
        have hBL2 := hL B (List.mem_of_getElem? hB)
        rw [show Gs.getD j [] = B by simp [List.getD, hB]] at HL
        obtain ⟨sb, hsb⟩ : ∃ sb, startOf Gs j = sb := ⟨_, rfl⟩
        rw [hsb] at e1 hSB HL
        have hbdB : sb + B.length ≤ N := by omega
        clear hsb hSB hMB hS hM
        have ownB5 := rowBelow hrowB b5
        have hwj : IntKind.i64.wrap (j : Int) = (j : Int) := IntWalk.i64_in _ ⟨by omega, by omega⟩
        have hjn : ¬ n ≤ j := by omega
        have hji : (j : Int) < (n : Int) := by omega
        gi_wp2_with (first
          | (refine ⟨trivial, ?_⟩; gi_at_call 106; (with_reducible refine hln.mono ?_); rintro e w6 ⟨rfl, hG6, gr6⟩)
          | fail)
        have hG6w := hG6.lt
        have hC7 : (fun V : World => V.cell? ⟨L, j * 2, none⟩ = some (.slice pa B.length pc) ∧ V.cell? ⟨L, j * 2 + 1, none⟩ = some (.int .i64 (sb : Int)) ∧ V.heap[wr.heap.size]? = some (.cells #[.slice a0 C.length cap0, .int .i64 (st : Int)] 167 (0, 0))) w6.drew := by
          have hb : w6.heap[L]? = wr.heap[L]? := (gr6.block L (by simp; omega) (by simp; omega)).trans (b5.block L (by omega))
          exact ⟨(World.cell?_of_block (w' := w6.drew) (w := wr) hb).trans e0, (World.cell?_of_block (w' := w6.drew) (w := wr) hb).trans e1, (gr6.block _ (by simp) (by simp; omega)).trans q5⟩
        refine wpIn_region_any (by kernel_rfl) (wpAnyC.any (C := (fun V : World => V.cell? ⟨L, j * 2, none⟩ = some (.slice pa B.length pc) ∧ V.cell? ⟨L, j * 2 + 1, none⟩ = some (.int .i64 (sb : Int)) ∧ V.heap[wr.heap.size]? = some (.cells #[.slice a0 C.length cap0, .int .i64 (st : Int)] 167 (0, 0)))) ?_)
        change wpAnyC _ _ _ _ _ _ _ _ _ _ (World.drew _)
        refine wpAnyC_takeN 0 (some 30) (.slice (some ⟨G, 0, none⟩) N N) hC7 rfl rfl rfl (by kernel_rfl) (by kernel_rfl) (by kernel_rfl) (fun _ _ _ h => h) ⟨by rfl, fun V hV => ⟨rfl, by obtain ⟨k0, k1, k2⟩ := hV; have a0 := cell_of k2 0; have a1 := cell_of k2 1; go_simp⟩⟩ ?_
        go_frame
        refine wpAnyC_takeN 1 (some 31) (.slice (some ⟨L, 0, none⟩) n cp) hC7 rfl rfl rfl (by kernel_rfl) (by kernel_rfl) (by kernel_rfl) (fun _ _ _ h => h) ⟨by rfl, fun V hV => ⟨rfl, by obtain ⟨k0, k1, k2⟩ := hV; have a0 := cell_of k2 0; have a1 := cell_of k2 1; go_simp⟩⟩ ?_
        go_frame
        refine wpAnyC_takeN 2 (some 32) (.int .i64 ((j : Int) + 1)) hC7 rfl rfl rfl (by kernel_rfl) (by kernel_rfl) (by kernel_rfl) (fun _ _ _ h => h) ⟨by rfl, fun V hV => ⟨rfl, by obtain ⟨k0, k1, k2⟩ := hV; have a0 := cell_of k2 0; have a1 := cell_of k2 1; go_simp⟩⟩ ?_
        go_frame
        refine wpAnyC_takeN 3 (some 33) (.int .i64 (j : Int)) hC7 rfl rfl rfl (by kernel_rfl) (by kernel_rfl) (by kernel_rfl) (fun _ _ _ h => h) ⟨by rfl, fun V hV => ⟨rfl, by obtain ⟨k0, k1, k2⟩ := hV; have a0 := cell_of k2 0; have a1 := cell_of k2 1; go_simp⟩⟩ ?_
        go_frame
        refine wpAnyC_takeN 4 (some 34) (.pointer (some ⟨L, j * 2, none⟩)) hC7 rfl rfl rfl (by kernel_rfl) (by kernel_rfl) (by kernel_rfl) (fun _ _ _ h => h) ⟨by rfl, fun V hV => ⟨rfl, by obtain ⟨k0, k1, k2⟩ := hV; have a0 := cell_of k2 0; have a1 := cell_of k2 1; go_simp⟩⟩ ?_
        go_frame
        refine wpAnyC_takeN 5 (some 35) (.agg #[.slice pa B.length pc, .int .i64 (sb : Int)]) hC7 rfl rfl rfl (by kernel_rfl) (by kernel_rfl) (by kernel_rfl) (fun _ _ _ h => h) ⟨by rfl, fun V hV => ⟨rfl, by obtain ⟨k0, k1, k2⟩ := hV; have a0 := cell_of k2 0; have a1 := cell_of k2 1; go_simp⟩⟩ ?_
        go_frame
        refine wpAnyC_takeN 6 (some 36) (.agg #[.slice a0 C.length cap0, .int .i64 (st : Int)]) hC7 rfl rfl rfl (by kernel_rfl) (by kernel_rfl) (by kernel_rfl) (fun _ _ _ h => h) ⟨by rfl, fun V hV => ⟨rfl, by obtain ⟨k0, k1, k2⟩ := hV; have a0 := cell_of k2 0; have a1 := cell_of k2 1; go_simp⟩⟩ ?_
        go_frame
        refine wpAnyC_one (i := 7) (by kernel_rfl) rfl (by rfl) (fun K hK => ?_)
        have hG7 : GrpAt w6.drew G N _ := hG6
        have ownB7 : w6.drew.ownsRow 0 113 2 (.slice pa B.length pc) B.length (flatC B) := rowBelow (rowKeep ownB5 gr6 hG5) (Below.refl _ _).drew
        have ownC7 : w6.drew.ownsRow 0 113 2 (.slice a0 C.length cap0) C.length (flatC C) := rowBelow (rowKeep own5 gr6 hG5) (Below.refl _ _).drew
        have hln2 := linkNear_in hsrch hcmp G N N _ B C sb st pa a0 pc cap0 1 w6.drew hG7 ht hbdB hbd hCL.1 hCL.2.1 (by omega) hBL2.2.2 ownB7 ownC7
        go_simp
        refine ⟨trivial, hln2.mono ?_⟩
        rintro e w8 ⟨rfl, hG8, gr8⟩
        have hC8 : (fun V : World => V.cell? ⟨L, j * 2, none⟩ = some (.slice pa B.length pc) ∧ V.cell? ⟨L, j * 2 + 1, none⟩ = some (.int .i64 (sb : Int)) ∧ V.heap[wr.heap.size]? = some (.cells #[.slice a0 C.length cap0, .int .i64 (st : Int)] 167 (0, 0))) w8 := by
          have hb : w8.heap[L]? = w6.heap[L]? := gr8.block L (by have := gr6.size; simp at this; show L < w6.heap.size; omega) (by simp; omega)
          refine ⟨(World.cell?_of_block (w' := w8) (w := w6.drew) hb).trans hC7.1, (World.cell?_of_block (w' := w8) (w := w6.drew) hb).trans hC7.2.1, ?_⟩
          exact (gr8.block _ (by have := gr6.size; simp at this; show wr.heap.size < w6.heap.size; omega) (by simp; omega)).trans hC7.2.2
        refine hK _ _ hC8 ?_
        clear hK K
        refine wpAnyC_done (by kernel_rfl) ?_ _
        gi_wp2
        go_roundw
        case rel =>
          refine ⟨j + 1 + 1, by omega, by simp, ?_, ?_⟩
          · rw [HL.out]; exact hG8
          · exact grown_over (grown_over (grown_over g05 gr6) (grown_any (Below.refl _ w6).drew)) gr8
        case measure => simp [intOf]; omega
      · have hkd : decide ((k : Int) > 0) = false := decide_eq_false (by omega)
        have hkd2 : ¬ (k : Int) > 0 := by omega
        rw [if_neg hk0] at HL
        gi_wp2_with (first
          | (refine ⟨trivial, ?_⟩; gi_at_call 106; (with_reducible refine hln.mono ?_); rintro e w6 ⟨rfl, hG6, gr6⟩)
          | fail)
        go_roundw
        case rel =>
          refine ⟨k + 1, by omega, by simp, ?_, grown_over g05 gr6⟩
          rw [HL.out]; exact hG6
        case measure => simp [intOf]; omega
    · obtain rfl : k = n := by omega
      obtain ⟨j, hkj⟩ : ∃ j, k = j + 1 := ⟨k - 1, by omega⟩
      obtain ⟨C, hC⟩ : ∃ C, Gs[j]? = some C := ⟨Gs[j]'(by omega), by simp [show j < Gs.length by omega]⟩
      obtain ⟨v, hv⟩ : ∃ v, vs[j]? = some v := ⟨vs[j]'(by rw [hG.len]; omega), by simp [show j < vs.length by rw [hG.len]; omega]⟩
      have hrow : wr.ownsRow 0 113 2 v C.length (flatC C) := rowKeep (rowBelow (hG.row j v C hv hC) b12) hgr hG2
      obtain ⟨a0, cap0, rfl⟩ := row_slice hrow
      obtain ⟨c0, c1⟩ := HLget.out wr hLr j (by omega)
      rw [show vs.getD j undef = .slice a0 C.length cap0 by simp [List.getD, hv]] at c0
      have hS := startOf_succ hC
      have hgC : Gs.getD j [] = C := by simp [List.getD, hC]
      have HL : Hid (joins id (allLinks Gs) = joins (joins id (linkTo Gs k)) (sameTo (startOf Gs j) C.length)) := by
        show _ = _
        unfold allLinks
        rw [hnn, joins_append, show k - 1 = j by omega, hgC]
      obtain ⟨st, hst⟩ : ∃ st, startOf Gs j = st := ⟨_, rfl⟩
      obtain ⟨ρk, hρk⟩ : ∃ ρk, joins id (linkTo Gs k) = ρk := ⟨_, rfl⟩
      rw [hst] at c1 hS HL
      rw [hρk] at hGr HL
      rw [← hkj] at hS
      have hbd : st + C.length = N := by omega
      clear hst hρk
      have b5 : Below wr.heap.size wr (wr.alloc (.cells #[.slice a0 C.length cap0, .int .i64 (st : Int)] 167)) := (Below.refl _ _).alloc (Nat.le_refl _) _
      have hG5 : GrpAt _ G N (joins ρk (sameTo st 0)) := hGr.keep (b5.block _ hGr.lt)
      have q5 := blk_new wr (.cells #[.slice a0 C.length cap0, .int .i64 (st : Int)] 167)
      have hGw := hGr.lt
      have g05 : w2.grownBy (wr.alloc (.cells #[.slice a0 C.length cap0, .int .i64 (st : Int)] 167)) (some G) := grown_then hgr b5 hsz
      have hii : (k : Int) - 1 = (j : Int) := by omega
      have hwj : IntKind.i64.wrap (j : Int) = (j : Int) := IntWalk.i64_in _ ⟨by omega, by omega⟩
      have hji : (j : Int) < (k : Int) := by omega
      have hkn : ¬ k ≤ j := by omega
      clear hkj
      gi_wp2
      obtain ⟨W5, hW5⟩ : ∃ W5, wr.alloc (.cells #[.slice a0 C.length cap0, .int .i64 (st : Int)] 167) = W5 := ⟨_, rfl⟩
      have s5 : W5.heap.size = wr.heap.size + 1 := by rw [← hW5]; simp
      rw [hW5] at b5 q5 g05 hG5
      rw [hW5]
      clear hW5 hGr hgr hrow c0 c1 b5 hLr
      generalize wr.heap.size = T at *
      gi_loopw [48] (fun vi wy => ∃ i : Nat, i ≤ C.length ∧ vi = .int .i64 (i : Int) ∧ GrpAt wy G N (joins ρk (sameTo st i)) ∧ W5.grownBy wy (some G)) (fun vi _ => C.length - (intOf vi).toNat)
      case atStart => exact ⟨0, Nat.zero_le _, rfl, hG5, World.grownBy.refl _ _⟩
      case round =>
        obtain ⟨i, hi, rfl, hGi, hgi⟩ := hrel
        have m1 := cell_of ((hgi.block _ (by omega) (by simp; omega)).trans q5) 1
        by_cases hil : i < C.length
        · have hil2 : (i : Int) < (C.length : Int) := by omega
          have hjoin := join_grp G N N i (st + i) _ wr hGi (by omega) (by omega) ht
          rw [show ((st + i : Nat) : Int) = (st : Int) + (i : Int) by omega] at hjoin
          gi_wp2_with (refine ⟨trivial, ?_⟩; gi_at_call 107; refine (callsIn_wide.2 hjoin).mono ?_; rintro e w6 ⟨rfl, hG6, gr6⟩)
          go_roundw
          case rel =>
            refine ⟨i + 1, by omega, by simp, ?_, hgi.trans gr6⟩
            rw [sameTo_succ, joins_append]
            exact hG6
          case measure => simp [intOf]; omega
        · obtain rfl : i = C.length := by omega
          gi_wp2
          go_ret
          refine ⟨G, rfl, ?_, ?_, hGe⟩
          · rw [HL.out]; exact hGi
          · exact b12.trans (⟨(grown_over g05 hgi).os, (grown_over g05 hgi).tape, (grown_over g05 hgi).output, (grown_over g05 hgi).size, fun k hk => (grown_over g05 hgi).block k (Nat.lt_of_lt_of_le hk b12.size) (fun e => by have := Option.some.inj e; omega)⟩)

end Go.Proofs.YtiohpcnnpmnjhaaGreatDoor

namespace Go.Proofs.YtiohpcnnpmnjhaaGreatDoor
open Go.RowKit Go.Shelf
set_option linter.unusedVariables false
attribute [local go_sem] Oper.semAt_some

theorem leader_grp (G cap N i : Nat) (ρ : Nat → Nat) (W : World) (h : GrpAt W G N ρ) (hi : i < N) (hn : N ≤ 1000000) :
    Calls Tryz.prog 82 #[.slice (some ⟨G, 0, none⟩) N cap, .int .i64 (i : Int)] W fun e W' => e = .returned (.int .i64 (ρ i : Int)) ∧ GrpAt W' G N ρ ∧ W.grownBy W' (some G) := by
  obtain ⟨g, hg, hl, rfl, hr⟩ := h
  refine (leader_any G cap g i W hg hl hi hn).mono ?_
  rintro e W' ⟨rfl, ⟨g', hg', hl', hn', hr'⟩, gr⟩
  exact ⟨by rw [hr i], ⟨g', hg', hl', hn', fun x => (hr' x).trans (hr x)⟩, gr⟩
theorem rowKeepB {W W' : World} {B G N n : Nat} {ρ : Nat → Nat} {v : Value} {xs : List Value} (h : W.ownsRow B 113 2 v n xs) (hg : W.grownBy W' (some G)) (hG : GrpAt W G N ρ) : W'.ownsRow B 113 2 v n xs := by
  obtain ⟨g, hg0, _⟩ := hG
  refine ⟨h.1, h.2.imp id ?_⟩
  rintro ⟨b, cap, cur, h1, h2, h3, h4⟩
  exact ⟨b, cap, cur, h1, h2, (hg.block b (blk_lt h3) (fun e => by have e := Option.some.inj e; subst e; unfold GroupsAt at hg0; rw [hg0] at h3; cases h3)).trans h3, h4⟩
/-- The cells of one leader, of the first m. -/
def ledTo (ρ : Nat → Nat) (C : List Cel) (l m : Nat) : List Cel := (List.range m).filterMap fun i => if ρ i = l then C[i]? else none
theorem ledTo_succ (ρ : Nat → Nat) (C : List Cel) (l m : Nat) {c : Cel} (h : C[m]? = some c) : ledTo ρ C l (m + 1) = ledTo ρ C l m ++ if ρ m = l then [c] else [] := by
  unfold ledTo
  rw [List.range_succ, List.filterMap_append]
  congr 1
  by_cases e : ρ m = l <;> simp [e, h]
theorem ledTo_len (ρ : Nat → Nat) (C : List Cel) (l m : Nat) : (ledTo ρ C l m).length ≤ m := by
  unfold ledTo
  refine Nat.le_trans (List.length_filterMap_le _ _) ?_
  simp

set_option maxRecDepth 100000 in
set_option maxHeartbeats 1600000 in
theorem ledBy_any (G cap N l : Nat) (ρ : Nat → Nat) (C : List Cel) (ad : Option Addr) (cp : Nat) (w : World) (hG : GrpAt w G N ρ) (hn : N ≤ 1000000) (hC : C.length ≤ N) (own0 : w.ownsRow 0 113 2 (.slice ad C.length cp) C.length (flatC C)) :
    Calls Tryz.prog 83 #[.int .i64 (l : Int), .slice ad C.length cp, .slice (some ⟨G, 0, none⟩) N cap] w fun e w' => (∃ v, e = .returned v ∧ w'.ownsRow w.heap.size 113 2 v (ledTo ρ C l C.length).length (flatC (ledTo ρ C l C.length))) ∧ GrpAt w' G N ρ ∧ w.grownBy w' (some G) := by
  obtain ⟨i0, hi, hz0, hz1, hz2⟩ := info_parts infoCell
  have hGw := hG.lt
  go_enter Tryz.func83, Tryz.ntmps83
  go_wp2
  go_loopw [7, 12] (fun vp vi wr => ∃ k : Nat, k ≤ C.length ∧ vi = .int .i64 (k : Int) ∧ wr.ownsRow w.heap.size 113 2 vp (ledTo ρ C l k).length (flatC (ledTo ρ C l k)) ∧ GrpAt wr G N ρ ∧ w.grownBy wr (some G)) (fun _ vi _ => C.length - (intOf vi).toNat)
  case atStart => exact ⟨0, Nat.zero_le _, rfl, World.ownsRow_nil _ _ _ _, hG, World.grownBy.refl _ _⟩
  case round =>
    obtain ⟨k, hk, rfl, own, hGr, hgr⟩ := hrel
    have hsz := hgr.size
    by_cases hlt : k < C.length
    · have hki : (k : Int) < (C.length : Int) := by omega
      obtain ⟨⟨x, y⟩, hs⟩ : ∃ d, C[k]? = some d := ⟨C[k], by simp [hlt]⟩
      have own1 : wr.ownsRow 0 113 2 (.slice ad C.length cp) C.length (flatC C) := rowKeepB own0 hgr hG
      obtain ⟨Ga, rfl, hg, hget⟩ := (RowAt.of_owns own1).get hs
      obtain ⟨d0, d1⟩ := hget wr (Below.refl _ _)
      simp only at d0 d1
      have b5 : Below wr.heap.size wr (wr.alloc (.cells #[.int .i64 x, .int .i64 y] 113)) := (Below.refl _ _).alloc (Nat.le_refl _) _
      have hG5 := hGr.keep (b5.block _ hGr.lt)
      have q5 := blk_new wr (.cells #[.int .i64 x, .int .i64 y] 113)
      have hld := leader_grp G cap N k ρ _ hG5 (by omega) hn
      have HF := ledTo_succ ρ C l k hs
      have HFl := ledTo_len ρ C l k
      have HF' : Hid (ledTo ρ C l (k + 1) = ledTo ρ C l k ++ if ρ k = l then [(x, y)] else []) := HF
      obtain ⟨P, hP⟩ : ∃ P, ledTo ρ C l k = P := ⟨_, rfl⟩
      rw [hP] at own HF' HFl
      clear hP HF hget
      by_cases he : ρ k = l
      · have hee : (ρ k : Int) = (l : Int) := by omega
        have hee2 : ((ρ k : Int) == (l : Int)) = true := by simp [hee]
        rw [if_pos he] at HF'
        rw [hee] at hld
        clear hee hee2
        go_wp2_with (first
          | (go_at_call 82; refine hld.mono ?_; rintro e w6 ⟨rfl, hG6, gr6⟩; have own6 := rowKeepB (rowBelow own b5) gr6 hG5; have q6 := (gr6.block _ (by simp) (by simp; have := hGr.lt; omega)).trans q5; have z0 := cell_of q6 0; have z1 := cell_of q6 1; have s6 := gr6.size)
          | (at_builtin; refine wpList_append_own _ rfl _ _ 71 rfl w.heap.size 113 i0 (.agg #[.int .i64 0, .int .i64 0]) 2 16 Tryz.underlying71 hi hz0 hz1 hz2 rfl (by decide) _ _ _ rfl (own6.alloc _) ⟨w6.heap.size, 0, none⟩ 1 1 [.int .i64 x, .int .i64 y] rfl rfl (cell_two_new _ _ _ _) (by simp [Value.oneCell']) (by unfold maxLen; omega) (by omega) (by simp at s6 ⊢; omega) ?_; intro v' w7 own7 hgr7 _))
        go_roundw
        case rel =>
          simp only [World.size_alloc] at s6
          have bA : Below w6.heap.size w6 (w6.alloc (.cells #[.int .i64 x, .int .i64 y] 113)) := (Below.refl _ _).alloc (Nat.le_refl _) _
          refine ⟨k + 1, by omega, by go_num, ?_, ?_, ?_⟩
          · rw [HF'.out, List.length_append, flatC_append]
            exact own7
          · refine (hG6.keep (bA.block _ hG6.lt)).keep (hgr7.block G (by simp; have := hG6.lt; omega) (fun e => ?_))
            have := (own6.lt G e.symm).1
            omega
          · exact grown_own (grown_then (grown_over (grown_then hgr b5 hsz) gr6) bA (by omega)) hgr7 (fun j hj => (own6.lt j hj).1)
        case measure => simp [intOf]; omega
      · have hee : ¬ (ρ k : Int) = (l : Int) := by omega
        have hee2 : ((ρ k : Int) == (l : Int)) = false := by simp; omega
        rw [if_neg he, List.append_nil] at HF'
        go_wp2_with (first
          | (go_at_call 82; refine hld.mono ?_; rintro e w6 ⟨rfl, hG6, gr6⟩; have own6 := rowKeepB (rowBelow own b5) gr6 hG5))
        go_roundw
        case rel =>
          refine ⟨k + 1, by omega, by go_num, ?_, hG6, grown_over (grown_then hgr b5 hsz) gr6⟩
          rw [HF'.out]
          exact own6
        case measure => simp [intOf]; omega
    · obtain rfl : k = C.length := by omega
      go_wp2
      go_ret
      exact ⟨⟨_, rfl, own⟩, hGr, hgr⟩

end Go.Proofs.YtiohpcnnpmnjhaaGreatDoor
